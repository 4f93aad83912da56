/-
  What the document's own answers (package witref2) return on pairs: With, Put.
-/
import Derived.Test.YtbepfeajaoaocafGreatDoorWalkStoreRef
import Derived.BigQuiet
import Derived.Laws.Cover1
import Derived.Deep.QuietTactic
namespace Go.Proofs.YtbepfeajaoaocafGreatDoor.WalkWithRef
open Go.RowKit
open Lists (bt)
open Keeps (Kept owns_kept owns_row owns_base)
open Wides (Wide)
open Stores (Pair lt less find keyE putE putL withP outL Rising)
open PairRows (cells cells_append)
open WalkStoreRef (aggP sizeP eq_yes eq_no)

theorem infoP : (Tryz.prog.info? 44).map (fun i => (i.zero, i.size, i.bytes)) = some (some (.agg #[.string ⟨#[]⟩, .string ⟨#[]⟩, .bool false]), 3, 40) := by kernel_rfl
theorem below_drewN {B : Nat} {a w : World} (h : Below B a w) (n : Nat) : Below B a (w.drewN n) := ⟨h.os, h.tape, h.output, h.size, h.block⟩
theorem owns_drew {w : World} {base n s : Nat} {t : TypeId} {v : Value} {xs : List Value} (h : w.ownsRow base t s v n xs) (q : Nat) : (w.drewN q).ownsRow base t s v n xs := owns_kept h (Kept.of_below (fun _ => False) (below_drewN (Below.refl _ _) q)) fun _ _ f => f
theorem cell_three_new (w : World) (x y z : Value) (t : TypeId) : ∀ j u, [x, y, z][j]? = some u → (w.alloc (.cells #[x, y, z] t)).cell? ((⟨w.heap.size, 0, none⟩ : Addr).add j) = some u := by
  intro j u hj
  match j, hj with
  | 0, hj => simp at hj; subst hj; simp [Addr.add]
  | 1, hj => simp at hj; subst hj; simp [Addr.add]
  | 2, hj => simp at hj; subst hj; simp [Addr.add]
/-- a pair in a block -/
structure PAt (w : World) (g : Nat) (p : Pair) : Prop where
  key : w.cell? ⟨g, 0, none⟩ = some (.string p.key)
  val : w.cell? ⟨g, 1, none⟩ = some (.string p.val)
  gone : w.cell? ⟨g, 2, none⟩ = some (.bool p.gone)
theorem PAt.below {w w' : World} {g : Nat} {p : Pair} (a : PAt w g p) (b : Below w.heap.size w w') : PAt w' g p := ⟨Lists.cell_below b a.key, Lists.cell_below b a.val, Lists.cell_below b a.gone⟩
theorem PAt.new (w : World) (x y : ByteArray) (z : Bool) : PAt (w.alloc (.cells #[.string x, .string y, .bool z] 44)) w.heap.size ⟨x, y, z⟩ := ⟨by simp, by simp, by simp⟩

set_option maxHeartbeats 4000000 in
theorem with_any (l : List Pair) (p : Pair) (a : Option Addr) (n cap : Nat) (w : World) (hr : Wide 3 w a n cap (cells l)) (hn : n ≤ 1000) (hris : Rising l) :
    Calls Tryz.prog 64 #[.slice a n cap, .agg #[.string p.key, .string p.val, .bool p.gone]] w fun e w' => ∃ a' c', e = .returned (.slice a' (withP l p).length c') ∧ Wide 3 w' a' (withP l p).length c' (cells (withP l p)) ∧ (∀ x, a' = some x → w.heap.size ≤ x.block) ∧ Below w.heap.size w w' := by
  obtain ⟨pk, pv, pg⟩ := p
  simp only
  have hln := PairRows.len_of hr
  obtain ⟨i0, hi, hz0, hz1, hz2⟩ := info_parts infoP
  have b0 : Below w.heap.size w (w.alloc (.cells #[.string pk, .string pv, .bool pg] 44)) := (Below.refl _ _).alloc (Nat.le_refl _) _
  have HB0 : Hid (Below w.heap.size w (w.alloc (.cells #[.string pk, .string pv, .bool pg] 44))) := b0
  have HR : Hid (Wide 3 (w.alloc (.cells #[.string pk, .string pv, .bool pg] 44)) a n cap (cells l)) := hr.below b0
  have HP : Hid (PAt (w.alloc (.cells #[.string pk, .string pv, .bool pg] 44)) w.heap.size ⟨pk, pv, pg⟩) := PAt.new w pk pv pg
  have HI : Hid (Rising l) := hris
  have a26 := aggP
  have z26 := sizeP
  clear hr hris b0
  go_enter Tryz.func64, Tryz.ntmps64
  go_upto_region 1 with fail
  generalize w.alloc (.cells #[.string pk, .string pv, .bool pg] 44) = w0 at HB0 HR HP ⊢
  go_wp2_with fail
  go_loopw [5, 6, 7] (fun v b i wr => ∃ (k : Nat) (B : Bool) (m : List Pair), k ≤ n ∧ i = .int .i64 (k : Int) ∧ b = .bool B ∧ Hid (m = outL l ⟨pk, pv, pg⟩ k B) ∧ Hid (Stores.At l ⟨pk, pv, pg⟩ k B) ∧ Hid (m.length ≤ k + B.toNat) ∧ wr.ownsRow w0.heap.size 44 3 v m.length (cells m) ∧ Below w0.heap.size w0 wr) (fun _ _ i _ => n - (intOf i).toNat)
  case atStart => exact ⟨0, false, [], Nat.zero_le _, rfl, rfl, rfl, Stores.at_zero _ _, Nat.le_refl _, World.ownsRow_nil _ _ _ _, Below.refl _ _⟩
  case round =>
    obtain ⟨k, B, m, hk, rfl, rfl, HM, HA, HC, hown, hb⟩ := hrel
    by_cases hlt : k < n
    · have i1 : (k : Int) < (n : Int) := by omega
      have hkl : k < l.length := by omega
      obtain ⟨b1, off1, rfl, _⟩ := (HR.out.below hb).2.2 (by omega)
      have HQ : Hid (∀ w1, Below w0.heap.size w0 w1 → w1.cell? ⟨b1, off1 + k * 3, none⟩ = some (.string (l[k]).key) ∧ w1.cell? ⟨b1, off1 + k * 3 + 1, none⟩ = some (.string (l[k]).val) ∧ w1.cell? ⟨b1, off1 + k * 3 + 2, none⟩ = some (.bool (l[k]).gone)) := fun w1 b => PairRows.at_three (HR.out.below b) k hkl
      obtain ⟨p0, p1, p2⟩ := HQ.out _ hb
      obtain ⟨r0, r1, r2⟩ := HP.out.below hb
      have HX1 : Hid (lt (l[k]).key pk = true → Stores.At l ⟨pk, pv, pg⟩ k false → outL l ⟨pk, pv, pg⟩ (k + 1) false = outL l ⟨pk, pv, pg⟩ k false ++ [l[k]] ∧ Stores.At l ⟨pk, pv, pg⟩ (k + 1) false) := fun h h2 => Stores.out_below hkl h h2
      have HX2 : Hid (lt (l[k]).key pk = false → Stores.At l ⟨pk, pv, pg⟩ k false → outL l ⟨pk, pv, pg⟩ (k + 1) true = outL l ⟨pk, pv, pg⟩ k false ++ [(⟨pk, pv, pg⟩ : Pair)] ++ (if (l[k]).key = pk then [] else [l[k]]) ∧ Stores.At l ⟨pk, pv, pg⟩ (k + 1) true) := fun h h2 => Stores.out_here hkl h h2
      have HX3 : Hid (Stores.At l ⟨pk, pv, pg⟩ k true → (l[k]).key ≠ pk ∧ outL l ⟨pk, pv, pg⟩ (k + 1) true = outL l ⟨pk, pv, pg⟩ k true ++ [l[k]] ∧ Stores.At l ⟨pk, pv, pg⟩ (k + 1) true) := fun h => Stores.out_behind hkl HI.out h
      generalize l[k] = x at p0 p1 p2 HQ HX1 HX2 HX3
      obtain ⟨x0, x1, x2⟩ := x
      simp only at p0 p1 p2 r0 r1 r2 HQ HX1 HX2 HX3
      have HO : Hid (wr.ownsRow w0.heap.size 44 3 u5 m.length (cells m)) := hown
      have HB : Hid (Below w0.heap.size w0 wr) := hb
      clear hown hb hkl
      cases B
      rotate_left
      · -- it was put
        have hcm : m.length ≤ k + 1 := HC.out
        obtain ⟨g1, g2, g3⟩ := HX3.out HA.out
        have e1 := eq_no g1
        have HG : Hid (m ++ [(⟨x0, x1, x2⟩ : Pair)] = outL l ⟨pk, pv, pg⟩ (k + 1) true) := by rw [HM.out]; exact g2.symm
        have HA2 : Hid (Stores.At l ⟨pk, pv, pg⟩ (k + 1) true) := g3
        clear g1 g2 g3 HX1 HX2 HX3
        go_wp2_with fail
        go_quiet (fail)
        have HO' : Hid ((wr.drewN nq).ownsRow w0.heap.size 44 3 u5 (m).length (cells (m))) := owns_drew HO.out nq
        have HB' : Hid (Below w0.heap.size w0 (wr.drewN nq)) := below_drewN HB.out nq
        clear p0 p1 p2 r0 r1 r2 HO HB
        generalize wr.drewN nq = wq at HO' HB' ⊢
        rename Hid (World.ownsRow _ _ _ _ _ _ _) => HO
        rename Hid (Below _ _ wq) => HB
        clear nq
        obtain ⟨p0, p1, p2⟩ := HQ.out _ HB.out
        obtain ⟨r0, r1, r2⟩ := HP.out.below HB.out
        simp only at p0 p1 p2 r0 r1 r2
        go_wp2_with fail
        go_quiet (fail)
        have HO' : Hid ((wq.drewN nq).ownsRow w0.heap.size 44 3 u5 (m).length (cells (m))) := owns_drew HO.out nq
        have HB' : Hid (Below w0.heap.size w0 (wq.drewN nq)) := below_drewN HB.out nq
        clear p0 p1 p2 r0 r1 r2 HO HB
        generalize wq.drewN nq = wp at HO' HB' ⊢
        rename Hid (World.ownsRow _ _ _ _ _ _ _) => HO
        rename Hid (Below _ _ wp) => HB
        clear nq
        obtain ⟨p0, p1, p2⟩ := HQ.out _ HB.out
        obtain ⟨r0, r1, r2⟩ := HP.out.below HB.out
        simp only at p0 p1 p2 r0 r1 r2
        go_wp2_with (at_builtin; go_must (refine wpList_append_own _ rfl (.tmp 38) (.tmp 43) 34 rfl w0.heap.size 44 i0 (.agg #[.string ⟨#[]⟩, .string ⟨#[]⟩, .bool false]) 3 40 Tryz.underlying34 hi hz0 hz1 hz2 rfl (by decide) _ _ _ rfl (HO.out.alloc _) ⟨_, 0, none⟩ 1 1 [.string x0, .string x1, .bool x2] rfl rfl (cell_three_new _ _ _ _ _) (fun u hu => by simp at hu; rcases hu with rfl | rfl | rfl <;> rfl) (by unfold maxLen; omega) (by omega) (by have := HB.out.size; simp; omega) ?_); intro v1 wn o1 g1 z1; clear z1)
        have HBN : Hid (Below w0.heap.size w0 wn) := (HB.out.alloc HB.out.size _).grown g1 (by have := HB.out.size; simp; omega) (fun k hk => (HO.out.lt k hk).1)
        have HON : Hid (wn.ownsRow w0.heap.size 44 3 v1 (m ++ [(⟨x0, x1, x2⟩ : Pair)]).length (cells (m ++ [(⟨x0, x1, x2⟩ : Pair)]))) := by
          rw [cells_append, List.length_append]
          exact o1
        clear g1 o1 HO HB p0 p1 p2 r0 r1 r2
        go_roundw
        case rel => exact ⟨k + 1, true, m ++ [(⟨x0, x1, x2⟩ : Pair)], by omega, by go_num, rfl, HG, HA2, by show _ ≤ _; simp only [List.length_append, List.length_singleton, Bool.toNat_true] at hcm ⊢; omega, HON.out, HBN.out⟩
        case measure => simp [intOf]; omega
      have hcm : m.length ≤ k := HC.out
      by_cases hl : lt x0 pk = true
      · -- it is below
        obtain ⟨g2, g3⟩ := HX1.out hl HA.out
        have e1 := eq_no (Stores.lt_ne hl)
        have e2 : Op.bytesLess x0.toList pk.toList = true := hl
        have HG : Hid (m ++ [(⟨x0, x1, x2⟩ : Pair)] = outL l ⟨pk, pv, pg⟩ (k + 1) false) := by rw [HM.out]; exact g2.symm
        have HA2 : Hid (Stores.At l ⟨pk, pv, pg⟩ (k + 1) false) := g3
        clear g2 g3 HX1 HX2 HX3 hl
        go_wp2_with fail
        go_quiet (fail)
        have HO' : Hid ((wr.drewN nq).ownsRow w0.heap.size 44 3 u5 (m).length (cells (m))) := owns_drew HO.out nq
        have HB' : Hid (Below w0.heap.size w0 (wr.drewN nq)) := below_drewN HB.out nq
        clear p0 p1 p2 r0 r1 r2 HO HB
        generalize wr.drewN nq = wq at HO' HB' ⊢
        rename Hid (World.ownsRow _ _ _ _ _ _ _) => HO
        rename Hid (Below _ _ wq) => HB
        clear nq
        obtain ⟨p0, p1, p2⟩ := HQ.out _ HB.out
        obtain ⟨r0, r1, r2⟩ := HP.out.below HB.out
        simp only at p0 p1 p2 r0 r1 r2
        go_wp2_with fail
        go_quiet (fail)
        have HO' : Hid ((wq.drewN nq).ownsRow w0.heap.size 44 3 u5 (m).length (cells (m))) := owns_drew HO.out nq
        have HB' : Hid (Below w0.heap.size w0 (wq.drewN nq)) := below_drewN HB.out nq
        clear p0 p1 p2 r0 r1 r2 HO HB
        generalize wq.drewN nq = wp at HO' HB' ⊢
        rename Hid (World.ownsRow _ _ _ _ _ _ _) => HO
        rename Hid (Below _ _ wp) => HB
        clear nq
        obtain ⟨p0, p1, p2⟩ := HQ.out _ HB.out
        obtain ⟨r0, r1, r2⟩ := HP.out.below HB.out
        simp only at p0 p1 p2 r0 r1 r2
        go_wp2_with (at_builtin; go_must (refine wpList_append_own _ rfl (.tmp 38) (.tmp 43) 34 rfl w0.heap.size 44 i0 (.agg #[.string ⟨#[]⟩, .string ⟨#[]⟩, .bool false]) 3 40 Tryz.underlying34 hi hz0 hz1 hz2 rfl (by decide) _ _ _ rfl (HO.out.alloc _) ⟨_, 0, none⟩ 1 1 [.string x0, .string x1, .bool x2] rfl rfl (cell_three_new _ _ _ _ _) (fun u hu => by simp at hu; rcases hu with rfl | rfl | rfl <;> rfl) (by unfold maxLen; omega) (by omega) (by have := HB.out.size; simp; omega) ?_); intro v1 wn o1 g1 z1; clear z1)
        have HBN : Hid (Below w0.heap.size w0 wn) := (HB.out.alloc HB.out.size _).grown g1 (by have := HB.out.size; simp; omega) (fun k hk => (HO.out.lt k hk).1)
        have HON : Hid (wn.ownsRow w0.heap.size 44 3 v1 (m ++ [(⟨x0, x1, x2⟩ : Pair)]).length (cells (m ++ [(⟨x0, x1, x2⟩ : Pair)]))) := by
          rw [cells_append, List.length_append]
          exact o1
        clear g1 o1 HO HB p0 p1 p2 r0 r1 r2
        go_roundw
        case rel => exact ⟨k + 1, false, m ++ [(⟨x0, x1, x2⟩ : Pair)], by omega, by go_num, rfl, HG, HA2, by show _ ≤ _; simp only [List.length_append, List.length_singleton, Bool.toNat_false] at hcm ⊢; omega, HON.out, HBN.out⟩
        case measure => simp [intOf]; omega
      have hl : lt x0 pk = false := by simpa using hl
      have e2 : Op.bytesLess x0.toList pk.toList = false := hl
      obtain ⟨g2, g3⟩ := HX2.out hl HA.out
      by_cases hq : x0 = pk
      · -- in its place
        rw [if_pos hq, List.append_nil] at g2
        have e1 := eq_yes hq
        have HG : Hid (m ++ [(⟨pk, pv, pg⟩ : Pair)] = outL l ⟨pk, pv, pg⟩ (k + 1) true) := by rw [HM.out]; exact g2.symm
        have HA2 : Hid (Stores.At l ⟨pk, pv, pg⟩ (k + 1) true) := g3
        clear g2 g3 HX1 HX2 HX3 hl hq
        go_wp2_with fail
        go_quiet (fail)
        have HO' : Hid ((wr.drewN nq).ownsRow w0.heap.size 44 3 u5 (m).length (cells (m))) := owns_drew HO.out nq
        have HB' : Hid (Below w0.heap.size w0 (wr.drewN nq)) := below_drewN HB.out nq
        clear p0 p1 p2 r0 r1 r2 HO HB
        generalize wr.drewN nq = wq at HO' HB' ⊢
        rename Hid (World.ownsRow _ _ _ _ _ _ _) => HO
        rename Hid (Below _ _ wq) => HB
        clear nq
        obtain ⟨p0, p1, p2⟩ := HQ.out _ HB.out
        obtain ⟨r0, r1, r2⟩ := HP.out.below HB.out
        simp only at p0 p1 p2 r0 r1 r2
        go_upto_region 8 with (at_builtin; go_must (refine wpList_append_own _ rfl (.tmp 26) (.tmp 28) 34 rfl w0.heap.size 44 i0 (.agg #[.string ⟨#[]⟩, .string ⟨#[]⟩, .bool false]) 3 40 Tryz.underlying34 hi hz0 hz1 hz2 rfl (by decide) _ _ _ rfl (HO.out.alloc _) ⟨_, 0, none⟩ 1 1 [.string pk, .string pv, .bool pg] rfl rfl (cell_three_new _ _ _ _ _) (fun u hu => by simp at hu; rcases hu with rfl | rfl | rfl <;> rfl) (by unfold maxLen; omega) (by omega) (by have := HB.out.size; simp; omega) ?_); intro v1 wn o1 g1 z1; clear z1)
        have HBN : Hid (Below w0.heap.size w0 wn) := (HB.out.alloc HB.out.size _).grown g1 (by have := HB.out.size; simp; omega) (fun k hk => (HO.out.lt k hk).1)
        have HON : Hid (wn.ownsRow w0.heap.size 44 3 v1 (m ++ [(⟨pk, pv, pg⟩ : Pair)]).length (cells (m ++ [(⟨pk, pv, pg⟩ : Pair)]))) := by
          rw [cells_append, List.length_append]
          exact o1
        clear g1 o1 HO HB p0 p1 p2 r0 r1 r2
        rename Hid (World.ownsRow _ _ _ _ _ _ _) => HO
        rename Hid (Below _ _ wn) => HB
        obtain ⟨p0, p1, p2⟩ := HQ.out _ HB.out
        obtain ⟨r0, r1, r2⟩ := HP.out.below HB.out
        simp only at p0 p1 p2 r0 r1 r2
        go_wp2_with fail
        go_quiet (fail)
        have HO' : Hid ((wn.drewN nq).ownsRow w0.heap.size 44 3 v1 (m ++ [(⟨pk, pv, pg⟩ : Pair)]).length (cells (m ++ [(⟨pk, pv, pg⟩ : Pair)]))) := owns_drew HO.out nq
        have HB' : Hid (Below w0.heap.size w0 (wn.drewN nq)) := below_drewN HB.out nq
        clear p0 p1 p2 r0 r1 r2 HO HB
        generalize wn.drewN nq = wp at HO' HB' ⊢
        rename Hid (World.ownsRow _ _ _ _ _ _ _) => HO
        rename Hid (Below _ _ wp) => HB
        clear nq
        obtain ⟨p0, p1, p2⟩ := HQ.out _ HB.out
        obtain ⟨r0, r1, r2⟩ := HP.out.below HB.out
        simp only at p0 p1 p2 r0 r1 r2
        have HON := HO
        have HBN := HB
        go_wp2_with fail
        go_roundw
        case rel => exact ⟨k + 1, true, m ++ [(⟨pk, pv, pg⟩ : Pair)], by omega, by go_num, rfl, HG, HA2, by show _ ≤ _; simp only [List.length_append, List.length_singleton, Bool.toNat_true] at hcm ⊢; omega, HON.out, HBN.out⟩
        case measure => simp [intOf]; omega
      · -- ahead of it
        rw [if_neg hq] at g2
        have e1 := eq_no hq
        have HG : Hid (m ++ [(⟨pk, pv, pg⟩ : Pair)] ++ [(⟨x0, x1, x2⟩ : Pair)] = outL l ⟨pk, pv, pg⟩ (k + 1) true) := by rw [HM.out]; exact g2.symm
        have HA2 : Hid (Stores.At l ⟨pk, pv, pg⟩ (k + 1) true) := g3
        clear g2 g3 HX1 HX2 HX3 hl hq
        go_wp2_with fail
        go_quiet (fail)
        have HO' : Hid ((wr.drewN nq).ownsRow w0.heap.size 44 3 u5 (m).length (cells (m))) := owns_drew HO.out nq
        have HB' : Hid (Below w0.heap.size w0 (wr.drewN nq)) := below_drewN HB.out nq
        clear p0 p1 p2 r0 r1 r2 HO HB
        generalize wr.drewN nq = wq at HO' HB' ⊢
        rename Hid (World.ownsRow _ _ _ _ _ _ _) => HO
        rename Hid (Below _ _ wq) => HB
        clear nq
        obtain ⟨p0, p1, p2⟩ := HQ.out _ HB.out
        obtain ⟨r0, r1, r2⟩ := HP.out.below HB.out
        simp only at p0 p1 p2 r0 r1 r2
        go_upto_region 8 with (at_builtin; go_must (refine wpList_append_own _ rfl (.tmp 26) (.tmp 28) 34 rfl w0.heap.size 44 i0 (.agg #[.string ⟨#[]⟩, .string ⟨#[]⟩, .bool false]) 3 40 Tryz.underlying34 hi hz0 hz1 hz2 rfl (by decide) _ _ _ rfl (HO.out.alloc _) ⟨_, 0, none⟩ 1 1 [.string pk, .string pv, .bool pg] rfl rfl (cell_three_new _ _ _ _ _) (fun u hu => by simp at hu; rcases hu with rfl | rfl | rfl <;> rfl) (by unfold maxLen; omega) (by omega) (by have := HB.out.size; simp; omega) ?_); intro v1 wn o1 g1 z1; clear z1)
        have HBN : Hid (Below w0.heap.size w0 wn) := (HB.out.alloc HB.out.size _).grown g1 (by have := HB.out.size; simp; omega) (fun k hk => (HO.out.lt k hk).1)
        have HON : Hid (wn.ownsRow w0.heap.size 44 3 v1 (m ++ [(⟨pk, pv, pg⟩ : Pair)]).length (cells (m ++ [(⟨pk, pv, pg⟩ : Pair)]))) := by
          rw [cells_append, List.length_append]
          exact o1
        clear g1 o1 HO HB p0 p1 p2 r0 r1 r2
        rename Hid (World.ownsRow _ _ _ _ _ _ _) => HO
        rename Hid (Below _ _ wn) => HB
        have hcl : (m ++ [(⟨pk, pv, pg⟩ : Pair)]).length ≤ k + 1 := by rw [List.length_append]; simp only [List.length_singleton]; omega
        obtain ⟨p0, p1, p2⟩ := HQ.out _ HB.out
        obtain ⟨r0, r1, r2⟩ := HP.out.below HB.out
        simp only at p0 p1 p2 r0 r1 r2
        go_wp2_with fail
        go_quiet (fail)
        have HO' : Hid ((wn.drewN nq).ownsRow w0.heap.size 44 3 v1 (m ++ [(⟨pk, pv, pg⟩ : Pair)]).length (cells (m ++ [(⟨pk, pv, pg⟩ : Pair)]))) := owns_drew HO.out nq
        have HB' : Hid (Below w0.heap.size w0 (wn.drewN nq)) := below_drewN HB.out nq
        clear p0 p1 p2 r0 r1 r2 HO HB
        generalize wn.drewN nq = wp at HO' HB' ⊢
        rename Hid (World.ownsRow _ _ _ _ _ _ _) => HO
        rename Hid (Below _ _ wp) => HB
        clear nq
        obtain ⟨p0, p1, p2⟩ := HQ.out _ HB.out
        obtain ⟨r0, r1, r2⟩ := HP.out.below HB.out
        simp only at p0 p1 p2 r0 r1 r2
        generalize hmm : m ++ [(⟨pk, pv, pg⟩ : Pair)] = m2 at HO HG hcl
        go_wp2_with (at_builtin; go_must (refine wpList_append_own _ rfl (.tmp 38) (.tmp 43) 34 rfl w0.heap.size 44 i0 (.agg #[.string ⟨#[]⟩, .string ⟨#[]⟩, .bool false]) 3 40 Tryz.underlying34 hi hz0 hz1 hz2 rfl (by decide) _ _ _ rfl (HO.out.alloc _) ⟨_, 0, none⟩ 1 1 [.string x0, .string x1, .bool x2] rfl rfl (cell_three_new _ _ _ _ _) (fun u hu => by simp at hu; rcases hu with rfl | rfl | rfl <;> rfl) (by unfold maxLen; omega) (by omega) (by have := HB.out.size; simp; omega) ?_); intro v2 wm o1 g1 z1; clear z1)
        have HBN : Hid (Below w0.heap.size w0 wm) := (HB.out.alloc HB.out.size _).grown g1 (by have := HB.out.size; simp; omega) (fun k hk => (HO.out.lt k hk).1)
        have HON : Hid (wm.ownsRow w0.heap.size 44 3 v2 (m2 ++ [(⟨x0, x1, x2⟩ : Pair)]).length (cells (m2 ++ [(⟨x0, x1, x2⟩ : Pair)]))) := by
          rw [cells_append, List.length_append]
          exact o1
        clear g1 o1 HO HB p0 p1 p2 r0 r1 r2
        go_roundw
        case rel => exact ⟨k + 1, true, m2 ++ [(⟨x0, x1, x2⟩ : Pair)], by omega, by go_num, rfl, HG, HA2, by show _ ≤ _; simp only [List.length_append, List.length_singleton, Bool.toNat_true] at hcl ⊢; omega, HON.out, HBN.out⟩
        case measure => simp [intOf]; omega
    · have i1 : ¬ (k : Int) < (n : Int) := by omega
      obtain rfl : k = n := by omega
      have HB : Hid (Below w0.heap.size w0 wr) := hb
      have hend := Stores.out_end (l := l) (p := ⟨pk, pv, pg⟩) (n := k) (by omega)
      cases B
      · have hcm : m.length ≤ k := HC.out
        have HG : Hid (m ++ [(⟨pk, pv, pg⟩ : Pair)] = withP l ⟨pk, pv, pg⟩) := by rw [HM.out]; exact hend.2 HA.out
        have HO : Hid (wr.ownsRow w0.heap.size 44 3 u5 m.length (cells m)) := hown
        obtain ⟨r0, r1, r2⟩ := HP.out.below HB.out
        simp only at r0 r1 r2
        clear hown hb hend
        go_upto_region 13 with (at_builtin; go_must (refine wpList_append_own _ rfl (.tmp 47) (.tmp 49) 34 rfl w0.heap.size 44 i0 (.agg #[.string ⟨#[]⟩, .string ⟨#[]⟩, .bool false]) 3 40 Tryz.underlying34 hi hz0 hz1 hz2 rfl (by decide) _ _ _ rfl (HO.out.alloc _) ⟨_, 0, none⟩ 1 1 [.string pk, .string pv, .bool pg] rfl rfl (cell_three_new _ _ _ _ _) (fun u hu => by simp at hu; rcases hu with rfl | rfl | rfl <;> rfl) (by unfold maxLen; omega) (by omega) (by have := HB.out.size; simp; omega) ?_); intro v1 wn o1 g1 z1; clear z1)
        have HBN : Hid (Below w0.heap.size w0 wn) := (HB.out.alloc HB.out.size _).grown g1 (by have := HB.out.size; simp; omega) (fun k hk => (HO.out.lt k hk).1)
        have HON : Hid (wn.ownsRow w0.heap.size 44 3 v1 (withP l ⟨pk, pv, pg⟩).length (cells (withP l ⟨pk, pv, pg⟩))) := by
          rw [← HG.out, cells_append, List.length_append]
          exact o1
        clear g1 o1 HO HB r0 r1 r2
        obtain ⟨a1, c1, rfl, hwd⟩ := Wides.owns_wide HON.out
        have HFr : Hid (∀ x, a1 = some x → w.heap.size ≤ x.block) := fun x hx => Nat.le_trans HB0.out.size (Wides.owns_fresh HON.out x hx)
        have HW : Hid (Wide 3 wn a1 (withP l ⟨pk, pv, pg⟩).length c1 (cells (withP l ⟨pk, pv, pg⟩))) := hwd
        clear hwd HON
        go_wp2_with fail
        go_ret
        exact ⟨_, _, rfl, HW.out, HFr.out, bt HB0.out HBN.out⟩
      · have HG : Hid (m = withP l ⟨pk, pv, pg⟩) := by rw [HM.out]; exact hend.1 HA.out
        rw [HG.out] at hown
        obtain ⟨a1, c1, rfl, hwd⟩ := Wides.owns_wide hown
        have HFr : Hid (∀ x, a1 = some x → w.heap.size ≤ x.block) := fun x hx => Nat.le_trans HB0.out.size (Wides.owns_fresh hown x hx)
        have HW : Hid (Wide 3 wr a1 (withP l ⟨pk, pv, pg⟩).length c1 (cells (withP l ⟨pk, pv, pg⟩))) := hwd
        clear hwd hown hb hend
        go_wp2_with fail
        go_ret
        exact ⟨_, _, rfl, HW.out, HFr.out, bt HB0.out HB.out⟩

set_option maxHeartbeats 4000000 in
theorem put_any (l : List Pair) (p : Pair) (a : Option Addr) (n cap : Nat) (w : World) (hr : Wide 3 w a n cap (cells l)) (hn : n ≤ 1000) (hris : Rising l) :
    Calls Tryz.prog 38 #[.slice a n cap, .agg #[.string p.key, .string p.val, .bool p.gone]] w fun e w' => ∃ a' c', e = .returned (.tuple #[.slice a' (putL l p).length c', .int .i64 (putE l p : Nat)]) ∧ Wide 3 w' a' (putL l p).length c' (cells (putL l p)) ∧ ((a' = a ∧ putL l p = l) ∨ ∀ x, a' = some x → w.heap.size ≤ x.block) ∧ Below w.heap.size w w' := by
  have hln := PairRows.len_of hr
  have cW := fun w1 (b : Below w.heap.size w w1) => with_any l p a n cap w1 (hr.below b) hn hris
  obtain ⟨pk, pv, pg⟩ := p
  simp only at cW ⊢
  have cF := fun w1 (b : Below w.heap.size w w1) => WalkStoreRef.find_any l pk a n cap w1 (hr.below b) (by omega)
  have cK := fun w1 => WalkStoreRef.key_any pk w1
  have b0 : Below w.heap.size w (w.alloc (.cells #[.string pk, .string pv, .bool pg] 44)) := (Below.refl _ _).alloc (Nat.le_refl _) _
  obtain ⟨r0, r1, r2⟩ := PAt.new w pk pv pg
  have HP : Hid (PAt (w.alloc (.cells #[.string pk, .string pv, .bool pg] 44)) w.heap.size ⟨pk, pv, pg⟩) := PAt.new w pk pv pg
  have HR : Hid (Wide 3 w a n cap (cells l)) := hr
  have a26 := aggP
  have z26 := sizeP
  simp only at r0 r1 r2
  clear hr
  obtain ⟨E, HE⟩ : ∃ E : Nat, Hid (keyE pk = E) := ⟨_, rfl⟩
  rw [HE.out] at cK
  -- what is refused leaves all as it was
  have HRef : Hid (∀ (w1 : World) (F : Nat), putE l ⟨pk, pv, pg⟩ = F → F ≠ 0 → Below w.heap.size w w1 → ∃ a' c', Ending.returned (.tuple #[.slice a n cap, .int .i64 (F : Int)]) = .returned (.tuple #[.slice a' (putL l ⟨pk, pv, pg⟩).length c', .int .i64 (putE l ⟨pk, pv, pg⟩ : Nat)]) ∧ Wide 3 w1 a' (putL l ⟨pk, pv, pg⟩).length c' (cells (putL l ⟨pk, pv, pg⟩)) ∧ ((a' = a ∧ putL l ⟨pk, pv, pg⟩ = l) ∨ ∀ x, a' = some x → w.heap.size ≤ x.block) ∧ Below w.heap.size w w1) := by
    intro w1 F hF h0 b
    have hp : putL l ⟨pk, pv, pg⟩ = l := if_neg (by rw [hF]; exact h0)
    rw [hp, hln, hF]
    exact ⟨a, cap, rfl, HR.out.below b, .inl ⟨rfl, rfl⟩, b⟩
  by_cases hE : E = 0
  rotate_left
  · have hd : (((E : Nat) : Int) == 0) = false := by rw [beq_eq_false_iff_ne]; omega
    have hd2 : (((E : Nat) : Int) != 0) = true := by rw [bne_iff_ne]; omega
    have HV := HRef.out (w.alloc (.cells #[.string pk, .string pv, .bool pg] 44)) E (by
      unfold putE
      simp only
      rw [HE.out, if_pos hE]) hE b0
    clear hE HRef HE cW cF
    go_enter Tryz.func38, Tryz.ntmps38
    go_wp2_with fail
    refine (cK _).mono ?_
    rintro e w1 ⟨rfl, rfl⟩
    go_wp2_with fail
    go_ret2
    exact HV
  subst hE
  have HPE : Hid (putE l ⟨pk, pv, pg⟩ = if 200 < pv.size ∨ (find l pk = none ∧ 60 ≤ l.length) then 4 else 0) := by
    show _ = _
    unfold putE
    simp only
    rw [HE.out, if_neg (by decide)]
  by_cases hv : 200 < pv.size
  · have i1 : (200 : Int) < (pv.size : Int) := by omega
    have HV := HRef.out (w.alloc (.cells #[.string pk, .string pv, .bool pg] 44)) 4 (by rw [HPE.out, if_pos (.inl hv)]) (by decide) b0
    clear HRef HE cW cF HPE hv
    go_enter Tryz.func38, Tryz.ntmps38
    go_wp2_with fail
    refine (cK _).mono ?_
    rintro e w1 ⟨rfl, rfl⟩
    go_wp2_with fail
    go_ret2
    exact HV
  have i1 : ¬ (200 : Int) < (pv.size : Int) := by omega
  go_enter Tryz.func38, Tryz.ntmps38
  go_wp2_with fail
  refine (cK _).mono ?_
  rintro e w1 ⟨rfl, rfl⟩
  clear cK
  go_wp2_with fail
  refine (cF _ b0).mono ?_
  rintro e w2 ⟨z, rfl, hz, b2⟩
  obtain ⟨s0, s1, s2⟩ := HP.out.below b2
  simp only at s0 s1 s2
  replace b0 := bt b0 b2
  clear cF b2 r0 r1 r2
  have HWith : Hid (putE l ⟨pk, pv, pg⟩ = 0 → putL l ⟨pk, pv, pg⟩ = withP l ⟨pk, pv, pg⟩) := fun h => if_pos h
  rcases hz with ⟨h1, rfl⟩ | ⟨j, hj, rfl, h1⟩
  · by_cases hl : 60 ≤ n
    · have i2 : (60 : Int) ≤ (n : Int) := by omega
      have HV := HRef.out w2 4 (by rw [HPE.out, if_pos (.inr ⟨h1, by omega⟩)]) (by decide) b0
      clear HRef HE cW HPE hv h1 HWith
      go_wp2_with fail
      go_ret2
      exact HV
    · have i2 : ¬ (60 : Int) ≤ (n : Int) := by omega
      have h0 : putE l ⟨pk, pv, pg⟩ = 0 := by
        rw [HPE.out, if_neg]
        rintro (q | ⟨_, q⟩)
        · exact hv q
        · omega
      have HL := HWith.out h0
      have HZ : Hid (putE l ⟨pk, pv, pg⟩ = 0 ∧ putL l ⟨pk, pv, pg⟩ = withP l ⟨pk, pv, pg⟩) := ⟨h0, HL⟩
      clear HRef HE HPE hv h1 HWith h0 HL
      go_wp2_with fail
      refine (cW _ b0).mono ?_
      rintro e w3 ⟨a', c', rfl, hw3, hf3, b3⟩
      have HW3 : Hid (Wide 3 w3 a' (withP l ⟨pk, pv, pg⟩).length c' (cells (withP l ⟨pk, pv, pg⟩))) := hw3
      have HF3 : Hid (∀ x, a' = some x → w.heap.size ≤ x.block) := fun x hx => Nat.le_trans b0.size (hf3 x hx)
      replace b0 := bt b0 b3
      clear cW hw3 b3 hf3 s0 s1 s2
      generalize hlen : (withP l ⟨pk, pv, pg⟩).length = q at HW3
      have HQ : Hid ((withP l ⟨pk, pv, pg⟩).length = q) := hlen
      clear hlen
      go_wp2_with fail
      go_ret2
      rw [HZ.out.1, HZ.out.2, HQ.out]
      exact ⟨a', c', rfl, HW3.out, .inr HF3.out, b0⟩
  · have i2 : ¬ (j : Int) < 0 := by omega
    have h0 : putE l ⟨pk, pv, pg⟩ = 0 := by
      rw [HPE.out, if_neg]
      rintro (q | ⟨q, _⟩)
      · exact hv q
      · rw [h1] at q
        cases q
    have HL := HWith.out h0
    have HZ : Hid (putE l ⟨pk, pv, pg⟩ = 0 ∧ putL l ⟨pk, pv, pg⟩ = withP l ⟨pk, pv, pg⟩) := ⟨h0, HL⟩
    clear HRef HE HPE hv h1 HWith h0 HL
    go_wp2_with fail
    refine (cW _ b0).mono ?_
    rintro e w3 ⟨a', c', rfl, hw3, hf3, b3⟩
    have HW3 : Hid (Wide 3 w3 a' (withP l ⟨pk, pv, pg⟩).length c' (cells (withP l ⟨pk, pv, pg⟩))) := hw3
    have HF3 : Hid (∀ x, a' = some x → w.heap.size ≤ x.block) := fun x hx => Nat.le_trans b0.size (hf3 x hx)
    replace b0 := bt b0 b3
    clear cW hw3 b3 hf3 s0 s1 s2
    generalize hlen : (withP l ⟨pk, pv, pg⟩).length = q at HW3
    have HQ : Hid ((withP l ⟨pk, pv, pg⟩).length = q) := hlen
    clear hlen
    go_wp2_with fail
    go_ret2
    rw [HZ.out.1, HZ.out.2, HQ.out]
    exact ⟨a', c', rfl, HW3.out, .inr HF3.out, b0⟩

end Go.Proofs.YtbepfeajaoaocafGreatDoor.WalkWithRef
