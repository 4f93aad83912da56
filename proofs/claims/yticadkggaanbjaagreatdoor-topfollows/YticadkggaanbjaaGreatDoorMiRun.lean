/-
  What the program's mirror does but for Hear: New, Size, Root, Entries, Head, Want; and what these and Hear are made of: rootOf, ownCopy, forget.
-/
import Derived.Test.YticadkggaanbjaaGreatDoorObjRows
import Derived.Test.YticadkggaanbjaaGreatDoorWalkMiLists
import Derived.Test.YticadkggaanbjaaGreatDoorEntAll
import Derived.Test.YticadkggaanbjaaGreatDoorTreeRun
import Derived.Test.YticadkggaanbjaaGreatDoorHdRun
import Derived.BigRegion
import Derived.BigQuiet
import Derived.Deep.QuietTactic
import Derived.Deep.RegionHeld
import Derived.Deep.CutBlock
import Derived.Deep.DeepMust
import Derived.Deep.OwnRows
import Derived.Deep.RegionLaw
import Derived.Test.YticadkggaanbjaaGreatDoorGrowRun
import Derived.Maps.AppendAt
import Derived.Lib.AppendZeros
import Derived.Test.YticadkggaanbjaaGreatDoorReplyAll
namespace Go.Proofs.YticadkggaanbjaaGreatDoor.WalkMiOne
open Go.RowKit
open MirVals (wv aggW sizeW)
open Lists (Row ints bt)
open Keeps (Kept owns_kept owns_base owns_row)
open Wides (Wide owns_wide)
open Heads (Head zero isKey)
open HeadVals (hv aggH sizeH)
open Entries (Entry entE entsE leafsOf)
open EntRows (cells cells_append)
open Errs (errv errv0 errv_pos)
open Mirrors (Mir Want rootE)
open MirObj (Lay fld foot put4)
open WalkHdLib (Tabs)

theorem leafs_valid {l : List Entry} : ∀ x ∈ leafsOf l, Nums.valid x = true := by
  intro x hx
  obtain ⟨e, _, rfl⟩ := List.mem_map.1 hx
  have := Sums.sum_bd (0 :: Entries.bytes e)
  exact Nums.valid_iff.2 ⟨this.1, this.2⟩
theorem leafs_fine {l : List Entry} (hf : entsE l = 0) : Trees.leafsE (leafsOf l) = 0 := by
  unfold Trees.leafsE
  rw [if_neg (by have := (Entries.ents_ok hf).1; simp only [leafsOf, List.length_map]; omega)]
  exact if_pos (List.all_eq_true.2 leafs_valid)

theorem rootOf_any (l : List Entry) (a : Option Addr) (n cap : Nat) (w : World) (hr : Wide 2 w a n cap (cells l)) (hf : entsE l = 0) :
    Calls Tryz.prog 196 #[.slice a n cap] w fun e w' => e = .returned (.int .i64 (rootE l)) ∧ Below w.heap.size w w' := by
  have hz : ∀ e ∈ l, e.2.size ≤ maxLen := fun e he => by
    have := (Entries.ent_ok ((Entries.ents_ok hf).2 e he)).2.2
    unfold maxLen
    omega
  have cL := WalkEnt.leafs_any l a n cap w hr hz
  have hV : Entries.leafsV l = leafsOf l := if_pos hf
  have hRV : Trees.rootV (leafsOf l) = rootE l := if_pos (leafs_fine hf)
  have hRE := leafs_fine hf
  rw [hf, hV] at cL
  clear hz hr hf hV
  go_enter Tryz.func196, Tryz.ntmps196
  go_wp2_with fail
  refine cL.mono ?_
  rintro e w1 ⟨v, rfl, o1, b1⟩
  obtain ⟨a1, c1, rfl, hr1, _⟩ := owns_row o1
  have cR := WalkCheck.root_any (leafsOf l) a1 _ c1 w1 hr1
  rw [hRV, hRE] at cR
  clear cL o1 hr1 hRV hRE
  go_wp2_with fail
  refine cR.mono ?_
  rintro e w2 ⟨rfl, b2⟩
  clear cR
  go_wp2_with fail
  go_ret
  exact ⟨rfl, bt b1 b2⟩

theorem size_any {w : World} {B b : Nat} {key : Int} {m : Mir} {v1 v2 : Value} (h : Lay w B b key m v1 v2) :
    Calls Tryz.prog 83 #[.pointer (some ⟨b, 0, none⟩)] w fun e w' => e = .returned (.int .i64 (m.own.length : Int)) ∧ Below w.heap.size w w' := by
  have c1 : w.cell? ⟨b, 1, none⟩ = some v1 := h.row.cell (i := 1) (by omega)
  obtain ⟨a, c, rfl, hw⟩ := owns_wide h.own
  clear h hw
  go_enter Tryz.func83, Tryz.ntmps83
  go_wp2_with fail
  go_ret
  exact ⟨rfl, Below.refl _ _⟩

theorem root_any {w : World} {B b : Nat} {key : Int} {m : Mir} {v1 v2 : Value} (h : Lay w B b key m v1 v2) (hf : entsE m.own = 0) :
    Calls Tryz.prog 176 #[.pointer (some ⟨b, 0, none⟩)] w fun e w' => e = .returned (.int .i64 (rootE m.own)) ∧ Below w.heap.size w w' := by
  have c1 : w.cell? ⟨b, 1, none⟩ = some v1 := h.row.cell (i := 1) (by omega)
  obtain ⟨a, c, rfl, hw⟩ := owns_wide h.own
  have cR := rootOf_any m.own a m.own.length c w hw hf
  clear h hw hf
  go_enter Tryz.func176, Tryz.ntmps176
  go_wp2_with fail
  refine cR.mono ?_
  rintro e w1 ⟨rfl, b1⟩
  clear cR
  go_wp2_with fail
  go_ret
  exact ⟨rfl, b1⟩

theorem entries_any {w : World} {B b : Nat} {key : Int} {m : Mir} {v1 v2 : Value} (h : Lay w B b key m v1 v2) (hl : m.own.length ≤ 200) :
    Calls Tryz.prog 22 #[.pointer (some ⟨b, 0, none⟩)] w fun e w' => ∃ v, e = .returned v ∧ w'.ownsRow w.heap.size 38 2 v m.own.length (cells m.own) ∧ Below w.heap.size w w' := by
  have c1 : w.cell? ⟨b, 1, none⟩ = some v1 := h.row.cell (i := 1) (by omega)
  obtain ⟨a, c, rfl, hw⟩ := owns_wide h.own
  have cR := WalkMiLists.clone_any m.own a m.own.length c w (by omega) hw
  clear h hw
  go_enter Tryz.func22, Tryz.ntmps22
  go_wp2_with fail
  refine cR.mono ?_
  rintro e w1 ⟨v, rfl, o1, b1⟩
  clear cR
  go_wp2_with fail
  go_ret
  exact ⟨v, rfl, o1, b1⟩

/-- a row of two cells, written out -/
theorem row_two {w : World} {g : Nat} {t : TypeId} {f : Nat → Value} (h : w.rowIs g t 2 f) : w.heap[g]? = some (.cells #[f 0, f 1] t (0, 0)) := by
  obtain ⟨c, hb, hn, hc⟩ := h
  have : c = #[f 0, f 1] := by
    apply Array.ext_getElem?
    intro i
    match i with
    | 0 => rw [hc 0 (by omega)]; rfl
    | 1 => rw [hc 1 (by omega)]; rfl
    | i + 2 => rw [Array.getElem?_eq_none (by omega), Array.getElem?_eq_none (by simp)]
  rw [hb, this]
theorem size_two : (Tryz.prog.info? 38).map (·.size) = some 2 := by kernel_rfl
theorem ret_copy {w : World} {g : Nat} {x y : Value} (tmps : Array Value) (hp : tmps.getD 2 undef = .pointer (some ⟨g, 0, none⟩)) (h : w.heap[g]? = some (.cells #[x, y] 38 (0, 0))) :
    (results Tryz.f178 tmps).run Tryz.prog w = .ok (.agg #[x, y]) w :=
  results_cell_row rfl tmps w g _ #[x, y] (0, 0) _ hp h Tryz.underlying38 rfl size_two

set_option maxHeartbeats 8000000 in
set_option maxRecDepth 100000 in
theorem ownCopy_any (t : Int) (d : ByteArray) (w : World) (hd : d.size ≤ 200) :
    Calls Tryz.prog 178 #[.agg #[.int .i64 t, .string d]] w fun e w' => e = .returned (.agg #[.int .i64 t, .string d]) ∧ Below w.heap.size w w' := by
  have aE := WalkEntOne.aggE
  have zE := WalkEntOne.sizeE
  have HX : Hid (∀ w1, Calls Tryz.prog 197 #[.string d] w1 fun e w' => e = .returned (.string d) ∧ Below w1.heap.size w1 w') := fun w1 => WalkEntOne.clone_any d w1 (by omega)
  clear hd
  go_enter Tryz.func178, Tryz.ntmps178
  go_upto_region 1 with fail
  have b0 : Below w.heap.size w ((w.alloc (.cells #[.int .i64 t, .string d] 38)).alloc (.cells #[.int .i64 0, .string ⟨#[]⟩] 38)) := ((Below.refl _ _).alloc (Nat.le_refl _) _).alloc (by simp) _
  have k0 : ((w.alloc (.cells #[.int .i64 t, .string d] 38)).alloc (.cells #[.int .i64 0, .string ⟨#[]⟩] 38)).cell? ⟨w.heap.size, 0, none⟩ = some (.int .i64 t) := by rw [World.cell?_alloc_past _ _ _ (by simp)]; simp
  have k1 : ((w.alloc (.cells #[.int .i64 t, .string d] 38)).alloc (.cells #[.int .i64 0, .string ⟨#[]⟩] 38)).cell? ⟨w.heap.size, 1, none⟩ = some (.string d) := by rw [World.cell?_alloc_past _ _ _ (by simp)]; simp
  have r0 : ((w.alloc (.cells #[.int .i64 t, .string d] 38)).alloc (.cells #[.int .i64 0, .string ⟨#[]⟩] 38)).rowIs (w.heap.size + 1) 38 2 (fun j => if j = 0 then .int .i64 0 else .string ⟨#[]⟩) := by
    have := World.rowIs_alloc (w.alloc (.cells #[.int .i64 t, .string d] 38)) #[.int .i64 0, .string ⟨#[]⟩] 38 (fun j => if j = 0 then .int .i64 0 else .string ⟨#[]⟩) (by intro i hi; match i, hi with | 0, _ => rfl | 1, _ => rfl)
    simpa using this
  generalize (w.alloc (.cells #[.int .i64 t, .string d] 38)).alloc (.cells #[.int .i64 0, .string ⟨#[]⟩] 38) = w1 at b0 k0 k1 r0 ⊢
  have HB0 : Hid (Below w.heap.size w w1) := b0
  have HC : Hid (∀ w', Below w1.heap.size w1 w' → (w'.cell? ⟨w.heap.size, 0, none⟩ = some (.int .i64 t) ∧ w'.cell? ⟨w.heap.size, 1, none⟩ = some (.string d)) ∧ w'.rowIs (w.heap.size + 1) 38 2 (fun j => if j = 0 then .int .i64 0 else .string ⟨#[]⟩)) := fun w' b => ⟨⟨Lists.cell_below b k0, Lists.cell_below b k1⟩, r0.of_block (b.block _ r0.lt)⟩
  have d0 : w1.drew.cell? ⟨w.heap.size, 0, none⟩ = some (.int .i64 t) := k0
  have d1 : w1.drew.cell? ⟨w.heap.size, 1, none⟩ = some (.string d) := k1
  clear k0 k1 b0 r0
  go_region_held (fun w' => w'.cell? ⟨w.heap.size, 0, none⟩ = some (.int .i64 t) ∧ w'.cell? ⟨w.heap.size, 1, none⟩ = some (.string d)) (go_keep)
    (first | (go_at_call 197; refine (HX.out _).mono ?_; rintro e w4 ⟨rfl, b4⟩; have HB4 : Hid (Below w1.heap.size w1 w4) := bt (Below.refl _ w1).drew b4; obtain ⟨⟨c0, c1⟩, HQ⟩ := HC.out _ HB4.out; have q0 := HQ.cell (i := 0) (by omega); have q1 := HQ.cell (i := 1) (by omega); have f0 := HQ.frozen 0; have f1 := HQ.frozen 1; clear b4 HQ))
  have HQ := (HC.out _ HB4.out).2
  have HR : Hid (((w4.setCell ⟨w.heap.size + 1, 0, none⟩ (.int .i64 t)).setCell ⟨w.heap.size + 1, 1, none⟩ (.string d)).heap[w.heap.size + 1]? = some (.cells #[.int .i64 t, .string d] 38 (0, 0))) := row_two ((HQ.set 0 (.int .i64 t)).set 1 (.string d))
  have HE : Hid (Below w.heap.size w ((w4.setCell ⟨w.heap.size + 1, 0, none⟩ (.int .i64 t)).setCell ⟨w.heap.size + 1, 1, none⟩ (.string d))) := ((bt HB0.out HB4.out).setCell (by simp) _).setCell (by simp) _
  go_wp2_with fail
  refine bodyPost_ret (ret_copy _ rfl HR.out) rfl ⟨rfl, HE.out⟩

set_option maxHeartbeats 1000000 in
theorem forget_any {w : World} {B b : Nat} {key : Int} {m : Mir} {v1 v2 : Value} (h : Lay w B b key m v1 v2) :
    Calls Tryz.prog 161 #[.pointer (some ⟨b, 0, none⟩)] w fun e w' => e = .returned (.tuple #[]) ∧ Lay w' B b key m.forget v1 (.slice none 0 0) ∧ Kept (fun k => k = b) w w' := by
  have FIN : Hid (Lay (put4 (w.setCell ⟨b, 2, none⟩ (.slice none 0 0)) b 3 zero) B b key m.forget v1 (.slice none 0 0) ∧ Kept (fun k => k = b) w (put4 (w.setCell ⟨b, 2, none⟩ (.slice none 0 0)) b 3 zero)) := ⟨h.forget, (MirObj.kept_set w b 2 _).trans (MirObj.kept_put4 _ b 3 zero) fun _ q => .inl q⟩
  have c2 : w.cell? ⟨b, 2, none⟩ = some v2 := h.row.cell (i := 2) (by omega)
  have f2 := h.row.frozen 2
  have aH := aggH
  have zH := sizeH
  have h2 := MirObj.row_waits h.row (.slice none 0 0)
  have HR : Hid ((w.setCell ⟨b, 2, none⟩ (.slice none 0 0)).rowIs b 119 11 (fld key v1 m.head m.next (.slice none 0 0))) := h2
  obtain ⟨a2, cc2, rfl, _⟩ := owns_wide h.waits
  clear h h2
  unfold put4 zero at FIN
  simp only [Nat.reduceAdd] at FIN
  go_enter Tryz.func161, Tryz.ntmps161
  have d3 : (w.setCell ⟨b, 2, none⟩ (.slice none 0 0)).cell? ⟨b, 3, none⟩ = some (.int .i64 m.next.size) := HR.out.cell (i := 3) (by omega)
  have d4 : (w.setCell ⟨b, 2, none⟩ (.slice none 0 0)).cell? ⟨b, 4, none⟩ = some (.int .i64 m.next.root) := HR.out.cell (i := 4) (by omega)
  have d5 : (w.setCell ⟨b, 2, none⟩ (.slice none 0 0)).cell? ⟨b, 5, none⟩ = some (.int .i64 m.next.time) := HR.out.cell (i := 5) (by omega)
  have d6 : (w.setCell ⟨b, 2, none⟩ (.slice none 0 0)).cell? ⟨b, 6, none⟩ = some (.int .i64 m.next.sign) := HR.out.cell (i := 6) (by omega)
  have e3 := HR.out.frozen 3
  have e4 := HR.out.frozen 4
  have e5 := HR.out.frozen 5
  have e6 := HR.out.frozen 6
  go_wp2_with fail
  go_end0
  exact ⟨rfl, FIN.out⟩

theorem size_four : (Tryz.prog.info? 31).map (·.size) = some 4 := by kernel_rfl
theorem row_four {w : World} {g : Nat} {t : TypeId} {f : Nat → Value} (h : w.rowIs g t 4 f) : w.heap[g]? = some (.cells #[f 0, f 1, f 2, f 3] t (0, 0)) := by
  obtain ⟨c, hb, hn, hc⟩ := h
  have : c = #[f 0, f 1, f 2, f 3] := by
    apply Array.ext_getElem?
    intro i
    match i with
    | 0 => rw [hc 0 (by omega)]; rfl
    | 1 => rw [hc 1 (by omega)]; rfl
    | 2 => rw [hc 2 (by omega)]; rfl
    | 3 => rw [hc 3 (by omega)]; rfl
    | i + 4 => rw [Array.getElem?_eq_none (by omega), Array.getElem?_eq_none (by simp)]
  rw [hb, this]
theorem ret_head {w : World} {g : Nat} {x y z u : Value} (tmps : Array Value) (hp : tmps.getD 2 undef = .pointer (some ⟨g, 0, none⟩)) (h : w.heap[g]? = some (.cells #[x, y, z, u] 31 (0, 0))) :
    (results Tryz.f23 tmps).run Tryz.prog w = .ok (.agg #[x, y, z, u]) w :=
  results_cell_row rfl tmps w g _ #[x, y, z, u] (0, 0) _ hp h Tryz.underlying31 rfl size_four
theorem head_any {w : World} {B b : Nat} {key : Int} {m : Mir} {v1 v2 : Value} (h : Lay w B b key m v1 v2) :
    Calls Tryz.prog 23 #[.pointer (some ⟨b, 0, none⟩)] w fun e w' => e = .returned (hv m.head) ∧ Below w.heap.size w w' := by
  have aH := aggH
  have zH := sizeH
  have c7 : w.cell? ⟨b, 7, none⟩ = some (.int .i64 m.head.size) := h.row.cell (i := 7) (by omega)
  have c8 : w.cell? ⟨b, 8, none⟩ = some (.int .i64 m.head.root) := h.row.cell (i := 8) (by omega)
  have c9 : w.cell? ⟨b, 9, none⟩ = some (.int .i64 m.head.time) := h.row.cell (i := 9) (by omega)
  have c10 : w.cell? ⟨b, 10, none⟩ = some (.int .i64 m.head.sign) := h.row.cell (i := 10) (by omega)
  have hb := h.row.lt
  clear h
  go_enter Tryz.func23, Tryz.ntmps23
  go_wp2_with fail
  refine bodyPost_ret (ret_head _ rfl (heap_alloc_new _ _)) rfl ⟨rfl, (Below.refl _ _).alloc (Nat.le_refl _) _⟩

theorem size_want : (Tryz.prog.info? 124).map (·.size) = some 3 := by kernel_rfl
theorem ret_want {w : World} {g : Nat} {x y z : Value} (tmps : Array Value) (hp : tmps.getD 2 undef = .pointer (some ⟨g, 0, none⟩)) (h : w.heap[g]? = some (.cells #[x, y, z] 124 (0, 0))) :
    (results Tryz.f82 tmps).run Tryz.prog w = .ok (.agg #[x, y, z]) w :=
  results_cell_row rfl tmps w g _ #[x, y, z] (0, 0) _ hp h Tryz.underlying124 rfl size_want
theorem row_three {w : World} {g : Nat} {t : TypeId} {f : Nat → Value} (h : w.rowIs g t 3 f) : w.heap[g]? = some (.cells #[f 0, f 1, f 2] t (0, 0)) := by
  obtain ⟨c, hb, hn, hc⟩ := h
  have : c = #[f 0, f 1, f 2] := by
    apply Array.ext_getElem?
    intro i
    match i with
    | 0 => rw [hc 0 (by omega)]; rfl
    | 1 => rw [hc 1 (by omega)]; rfl
    | 2 => rw [hc 2 (by omega)]; rfl
    | i + 3 => rw [Array.getElem?_eq_none (by omega), Array.getElem?_eq_none (by simp)]
  rw [hb, this]
theorem put_three {w : World} {g : Nat} {t : TypeId} {f : Nat → Value} (h : w.rowIs g t 3 f) (x y z : Value) : (((w.setCell ⟨g, 0, none⟩ x).setCell ⟨g, 1, none⟩ y).setCell ⟨g, 2, none⟩ z).heap[g]? = some (.cells #[x, y, z] t (0, 0)) := row_three (((h.set 0 x).set 1 y).set 2 z)
theorem few_waits {key : Int} {m : Mir} (ho : Mirrors.Ok key m) : m.waits.length ≤ 200 := by
  by_cases hz : m.next.size = 0
  · rw [(ho.none hz).2]
    simp
  · have h1 := (ho.some hz).2.2.1
    have h2 := (Mirrors.size_ok (ho.some hz).1).2
    have h3 : (m.has : Int) = ((m.own.length + m.waits.length : Nat) : Int) := rfl
    omega
set_option maxHeartbeats 4000000 in
theorem want_any {w : World} {B b : Nat} {key : Int} {m : Mir} {v1 v2 : Value} (h : Lay w B b key m v1 v2) (ho : Mirrors.Ok key m) :
    Calls Tryz.prog 82 #[.pointer (some ⟨b, 0, none⟩)] w fun e w' => e = .returned (wv m.want) ∧ Below w.heap.size w w' := by
  have aW := aggW
  have zW := sizeW
  have h2 := few_waits ho
  have h1 := ho.few
  have HLE : Hid (m.next.size ≠ 0 → (m.has : Int) ≤ m.next.size) := fun q => (ho.some q).2.2.1
  have c3 : w.cell? ⟨b, 3, none⟩ = some (.int .i64 m.next.size) := h.row.cell (i := 3) (by omega)
  have c1 : w.cell? ⟨b, 1, none⟩ = some v1 := h.row.cell (i := 1) (by omega)
  have c2 : w.cell? ⟨b, 2, none⟩ = some v2 := h.row.cell (i := 2) (by omega)
  obtain ⟨a1, k1, rfl, _⟩ := owns_wide h.own
  obtain ⟨a2, k2, rfl, _⟩ := owns_wide h.waits
  have hb := h.row.lt
  clear h ho
  have HH : Hid ((m.has : Int) = (m.own.length : Int) + (m.waits.length : Int)) := by show ((m.own.length + m.waits.length : Nat) : Int) = _; omega
  have HF : Hid (m.want = if m.next.size = 0 then ⟨1, 0, 0⟩ else if (m.has : Int) = m.next.size then ⟨3, m.own.length, m.has⟩ else ⟨2, m.has, if m.next.size < m.has + 16 then m.next.size else m.has + 16⟩) := rfl
  generalize m.own.length = O at *
  generalize m.waits.length = Q at *
  generalize m.next.size = Z at *
  generalize (m.has : Int) = H at *
  generalize m.want = W at *
  have e1 : (O : Int) + (Q : Int) = H := HH.out.symm
  have w1 : IntKind.i64.wrap H = H := by rw [IntKind.wrap_i64]; have := HH.out; omega
  go_enter Tryz.func82, Tryz.ntmps82
  go_upto_region 1 with fail
  have b0 : Below w.heap.size w (w.alloc (.cells #[.int .i64 0, .int .i64 0, .int .i64 0] 124)) := (Below.refl _ _).alloc (Nat.le_refl _) _
  have r0 : (w.alloc (.cells #[.int .i64 0, .int .i64 0, .int .i64 0] 124)).rowIs w.heap.size 124 3 (fun _ => .int .i64 0) := World.rowIs_alloc w #[.int .i64 0, .int .i64 0, .int .i64 0] _ _ (by intro i hi; match i, hi with | 0, _ => rfl | 1, _ => rfl | 2, _ => rfl)
  have q1 := Lists.cell_below b0 c1
  have q2 := Lists.cell_below b0 c2
  have q3 := Lists.cell_below b0 c3
  generalize w.alloc (.cells #[.int .i64 0, .int .i64 0, .int .i64 0] 124) = wa at b0 r0 q1 q2 q3 ⊢
  clear c1 c2 c3
  obtain ⟨g, hg⟩ : ∃ g, w.heap.size = g := ⟨_, rfl⟩
  rw [hg] at r0 ⊢
  go_quiet (fail)
  have b1 : Below w.heap.size w (wa.drewN nq) := b0.trans ⟨rfl, rfl, rfl, Nat.le_refl _, fun _ _ => rfl⟩
  have r1 : (wa.drewN nq).rowIs g 124 3 (fun _ => .int .i64 0) := r0
  have d1 : (wa.drewN nq).cell? ⟨b, 1, none⟩ = some (.slice a1 O k1) := q1
  have d3 : (wa.drewN nq).cell? ⟨b, 3, none⟩ = some (.int .i64 Z) := q3
  clear q1 q2 q3 r0 b0
  generalize wa.drewN nq = wb at b1 r1 d1 d3 ⊢
  have g0 := r1.cell (i := 0) (by omega)
  have g1 := r1.cell (i := 1) (by omega)
  have g2 := r1.cell (i := 2) (by omega)
  have f0 := r1.frozen 0
  have f1 := r1.frozen 1
  have f2 := r1.frozen 2
  have HR : Hid (wb.rowIs g 124 3 (fun _ => .int .i64 0)) := r1
  have HB : Hid (Below w.heap.size w wb) := b1
  have HG : Hid (w.heap.size = g) := hg
  have HD : Hid (wb.cell? ⟨b, 1, none⟩ = some (.slice a1 O k1) ∧ wb.cell? ⟨b, 3, none⟩ = some (.int .i64 Z)) := ⟨d1, d3⟩
  clear r1 b1 hg
  have hEnd : Hid (∀ x y z, Below w.heap.size w (((wb.setCell ⟨g, 0, none⟩ x).setCell ⟨g, 1, none⟩ y).setCell ⟨g, 2, none⟩ z)) := fun x y z => ((HB.out.setCell (by rw [HG.out]; exact Nat.le_refl _) _).setCell (by rw [HG.out]; exact Nat.le_refl _) _).setCell (by rw [HG.out]; exact Nat.le_refl _) _
  by_cases h0 : Z = 0
  · have HV : Hid (W = ⟨1, 0, 0⟩) := by show _ = _; rw [HF.out, if_pos h0]
    have e0 : (Z == 0) = true := by rw [beq_iff_eq]; exact h0
    clear h0 HF HLE
    go_wp2_with fail
    refine bodyPost_ret (ret_want _ rfl (put_three HR.out _ _ _)) rfl ⟨by rw [HV.out]; rfl, hEnd.out _ _ _⟩
  have e0 : (Z == 0) = false := by rw [beq_eq_false_iff_ne]; exact h0
  have hle := HLE.out h0
  by_cases hz : H < Z
  · have hne : H ≠ Z := by omega
    have HNE : Hid (H ≠ Z ∧ Z ≠ 0) := ⟨hne, h0⟩
    clear hne hle h0 HLE
    have w2 : IntKind.i64.wrap (H + 16) = H + 16 := by rw [IntKind.wrap_i64]; have := HH.out; omega
    have HV : Hid (W = ⟨2, H, min Z (H + 16)⟩) := by
      show _ = _
      rw [HF.out, if_neg HNE.out.2, if_neg HNE.out.1]
      congr 1
      split <;> omega
    clear HF
    go_wp2_with fail
    refine bodyPost_ret (ret_want _ rfl (put_three HR.out _ _ _)) rfl ⟨by rw [HV.out]; rfl, hEnd.out _ _ _⟩
  · have hq : H = Z := by omega
    have HV : Hid (W = ⟨3, (O : Int), Z⟩) := by show _ = _; rw [HF.out, if_neg h0, if_pos hq, hq]
    clear hq hle h0 HF HLE
    go_upto_region 6 with fail
    have z1 : wb.drew.cell? ⟨b, 1, none⟩ = some (.slice a1 O k1) := HD.out.1
    have z3 : wb.drew.cell? ⟨b, 3, none⟩ = some (.int .i64 Z) := HD.out.2
    go_region
    go_wp2_with fail
    refine bodyPost_ret (ret_want _ rfl (put_three HR.out _ _ _)) rfl ⟨by rw [HV.out]; rfl, (hEnd.out _ _ _).drew⟩

theorem signE_zero (key : Int) : Heads.signE zero key = if isKey key = true then 0 else 1 := by
  unfold Heads.signE
  have h : Heads.ok (Heads.blank zero) = true := by decide
  rw [h]
  simp
theorem start_lay (w : World) (B : Nat) (key : Int) (hB : B ≤ w.heap.size) : Lay (w.alloc (.cells #[.int .i64 key, .slice none 0 0, .slice none 0 0, .int .i64 0, .int .i64 0, .int .i64 0, .int .i64 0, .int .i64 0, .int .i64 0, .int .i64 0, .int .i64 0] 119)) B w.heap.size key Mirrors.start (.slice none 0 0) (.slice none 0 0) := by
  refine ⟨World.rowIs_alloc w _ _ _ (by intro i hi; match i, hi with | 0, _ | 1, _ | 2, _ | 3, _ | 4, _ | 5, _ | 6, _ | 7, _ | 8, _ | 9, _ | 10, _ => rfl | i + 11, h => simp at h; omega), World.ownsRow_nil _ _ _ _, World.ownsRow_nil _ _ _ _, hB, ?_, ?_, ?_⟩
  · simp [Value.ownBlock]
  · simp [Value.ownBlock]
  · intro k hk
    simp [Value.ownBlock]
theorem aggM (w : World) : (isAgg 119).run Tryz.prog w = .ok true w := by kernel_rfl
theorem sizeM (w : World) : (sizeOf 119).run Tryz.prog w = .ok 11 w := by kernel_rfl
set_option maxHeartbeats 1000000 in
theorem new_any (key : Int) (w : World) (B : Nat) (hB : B ≤ w.heap.size) (hT : Tabs w) : Calls Tryz.prog 20 #[.int .i64 key] w fun e w' => ∃ v, e = .returned (.tuple #[v, errv (if isKey key = true then 0 else 1)]) ∧ (isKey key = true → ∃ b, v = .pointer (some ⟨b, 0, none⟩) ∧ w.heap.size ≤ b ∧ Lay w' B b key Mirrors.start (.slice none 0 0) (.slice none 0 0)) ∧ Below w.heap.size w w' := by
  have aH := aggH
  have zH := sizeH
  have aM := aggM
  have zM := sizeM
  have cS := WalkHdSign.sign_any zero key w hT
  rw [signE_zero] at cS
  generalize Heads.signV zero key = x at cS
  obtain ⟨x0, x1, x2, x3⟩ := x
  unfold hv zero at cS
  simp only at cS
  clear hT
  by_cases hk : isKey key = true
  · rw [if_pos hk, errv0] at cS ⊢
    go_enter Tryz.func20, Tryz.ntmps20
    go_wp2_with fail
    refine cS.mono ?_
    rintro e w1 ⟨rfl, b1⟩
    clear cS
    go_wp2_with fail
    go_ret2
    refine ⟨.pointer (some ⟨w1.heap.size + 1, 0, none⟩), rfl, fun _ => ⟨w1.heap.size + 1, rfl, by have := b1.size; omega, ?_⟩, (b1.alloc b1.size _).alloc (by have := b1.size; simp; omega) _⟩
    have h := start_lay (w1.alloc (.cells #[.int .i64 x0, .int .i64 x1, .int .i64 x2, .int .i64 x3] 31)) B key (by have := b1.size; simp; omega)
    simpa using h
  · rw [if_neg hk] at cS ⊢
    go_enter Tryz.func20, Tryz.ntmps20
    go_wp2_with fail
    refine cS.mono ?_
    rintro e w1 ⟨rfl, b1⟩
    clear cS
    rw [errv_pos 1 (by omega)]
    go_wp2_with fail
    go_ret2
    refine ⟨_, rfl, fun q => absurd q hk, b1.alloc b1.size _⟩

end Go.Proofs.YticadkggaanbjaaGreatDoor.WalkMiOne

/-
  What the program's mirror does once all entries are there (goOn): they must have the root of the head that it heard.
-/
namespace Go.Proofs.YticadkggaanbjaaGreatDoor.WalkMiGo
open Go.RowKit
open Lists (Row ints bt)
open Keeps (Kept owns_kept owns_base owns_row)
open Wides (Wide owns_wide)
open Heads (Head zero isKey)
open HeadVals (hv aggH sizeH)
open Entries (Entry entE entsE leafsOf)
open EntRows (cells cells_append)
open Errs (errv errv0 errv_pos)
open Mirrors (Mir Want rootE)
open MirObj (Lay fld foot put4)

/-- it has turned: what it is now, where its blocks are -/
def Turned (w : World) (B b : Nat) (key : Int) (v1 v2 : Value) (m' : Mir) (w' : World) : Prop :=
  ∃ v1' v2', Lay w' B b key m' v1' v2' ∧ Kept (foot b v1 v2) w w' ∧ ∀ k, foot b v1' v2' k → foot b v1 v2 k ∨ w.heap.size ≤ k
theorem Turned.same {w w' : World} {B b : Nat} {key : Int} {m : Mir} {v1 v2 : Value} (h : Lay w B b key m v1 v2) (k : Below w.heap.size w w') : Turned w B b key v1 v2 m w' :=
  ⟨v1, v2, h.below k, Kept.of_below _ k, fun _ q => .inl q⟩
theorem Turned.from {w w1 w' : World} {B b : Nat} {key : Int} {m' : Mir} {v1 v2 : Value} (k : Below w.heap.size w w1) (h : Turned w1 B b key v1 v2 m' w') : Turned w B b key v1 v2 m' w' := by
  obtain ⟨x, y, h1, h2, h3⟩ := h
  exact ⟨x, y, h1, (Kept.of_below _ k).trans h2 fun _ q => .inl q, fun i q => (h3 i q).imp id fun q => Nat.le_trans k.size q⟩
theorem Turned.trans {w w1 w' : World} {B b : Nat} {key : Int} {m' : Mir} {v1 v2 x1 x2 : Value} (hk : Kept (foot b v1 v2) w w1) (hf : ∀ k, foot b x1 x2 k → foot b v1 v2 k ∨ w.heap.size ≤ k) (h : Turned w1 B b key x1 x2 m' w') : Turned w B b key v1 v2 m' w' := by
  obtain ⟨x, y, h1, h2, h3⟩ := h
  refine ⟨x, y, h1, hk.trans h2 hf, fun i q => ?_⟩
  rcases h3 i q with q | q
  · exact hf i q
  · exact .inr (Nat.le_trans hk.size q)
/-- .. and its end goes on -/
theorem Turned.then {w w1 w' : World} {B b : Nat} {key : Int} {m' : Mir} {v1 v2 : Value} (h : Turned w B b key v1 v2 m' w1) (k : Below w1.heap.size w1 w') : Turned w B b key v1 v2 m' w' := by
  obtain ⟨x, y, h1, h2, h3⟩ := h
  exact ⟨x, y, h1.below k, h2.then k, h3⟩

/-- what goOn leaves of it: on an error all is as it was -/
def gone (m : Mir) : Mir := if m.settledE = 0 then m.settled else m
set_option maxHeartbeats 4000000 in
set_option maxRecDepth 100000 in
theorem goOn_any {w : World} {B b : Nat} {key : Int} {m : Mir} {v1 v2 : Value} (h : Lay w B b key m v1 v2) (hf : entsE m.all = 0) :
    Calls Tryz.prog 179 #[.pointer (some ⟨b, 0, none⟩)] w fun e w' => e = .returned (errv m.settledE) ∧ Turned w B b key v1 v2 (gone m) w' := by
  have hla := (Entries.ents_ok hf).1
  have hBw : B ≤ w.heap.size := Nat.le_of_lt (Nat.lt_of_le_of_lt h.above h.row.lt)
  have HL : Hid (Lay w B b key m v1 v2) := h
  have HF : Hid (entsE m.all = 0) := hf
  have hfl : [m.own, m.waits].flatten = m.all := by simp [Mir.all]
  have HC : Hid (∀ (w' : World) (g : Nat), Below w.heap.size w w' → w'.cell? ⟨g, 0, none⟩ = some v1 → w'.cell? ⟨g, 1, none⟩ = some v2 → Calls Tryz.prog 198 #[.slice (some ⟨g, 0, none⟩) 2 2] w' fun e w'' => WalkMiLists.Fresh m.all w' e w'') := fun w' g hb h0 h1 => by
    have hl := HL.out.below hb
    have hr : Row w' (some ⟨g, 0, none⟩) 2 2 [v1, v2] := ⟨rfl, Nat.le_refl _, fun _ => ⟨g, 0, rfl, fun j u hj => by
      match j, hj with
      | 0, hj => simp at hj; subst hj; exact h0
      | 1, hj => simp at hj; subst hj; exact h1⟩⟩
    have ho : WalkMiLists.Owns w' [v1, v2] [m.own, m.waits] := ⟨rfl, fun i v l hv hl' => by
      match i, hv, hl' with
      | 0, hv, hl' => simp at hv hl'; subst hv; subst hl'; exact ⟨B, hl.own⟩
      | 1, hv, hl' => simp at hv hl'; subst hv; subst hl'; exact ⟨B, hl.waits⟩⟩
    have hc := WalkMiLists.concat_any [v1, v2] [m.own, m.waits] (some ⟨g, 0, none⟩) 2 2 w' hr ho (by omega) (by unfold WalkMiLists.total; rw [hfl]; omega)
    rw [hfl] at hc
    exact hc
  have d1 : w.cell? ⟨b, 1, none⟩ = some v1 := h.row.cell (i := 1) (by omega)
  have d2 : w.cell? ⟨b, 2, none⟩ = some v2 := h.row.cell (i := 2) (by omega)
  obtain ⟨a1, k1, rfl, _⟩ := owns_wide h.own
  obtain ⟨a2, k2, rfl, _⟩ := owns_wide h.waits
  have HS : Hid (∀ w', Below w.heap.size w w' → w'.cell? ⟨b, 1, none⟩ = some (.slice a1 m.own.length k1) ∧ w'.cell? ⟨b, 2, none⟩ = some (.slice a2 m.waits.length k2)) := fun w' hb => ⟨(HL.out.below hb).row.cell (i := 1) (by omega), (HL.out.below hb).row.cell (i := 2) (by omega)⟩
  clear h hf hfl hla
  go_enter Tryz.func179, Tryz.ntmps179
  go_upto_region 1 with fail
  have HCA : Hid (Calls Tryz.prog 198 #[.slice (some ⟨w.heap.size, 0, none⟩) 2 2] (w.alloc (.cells #[.slice a1 m.own.length k1, .slice a2 m.waits.length k2] 22)).drew fun e w'' => ∃ v, e = .returned v ∧ w''.ownsRow w.heap.size 38 2 v m.all.length (cells m.all) ∧ Below w.heap.size w w'') := by
    have hb : Below w.heap.size w (w.alloc (.cells #[.slice a1 m.own.length k1, .slice a2 m.waits.length k2] 22)).drew := ((Below.refl _ w).alloc (Nat.le_refl _) _).drew
    refine (HC.out _ w.heap.size hb (by simp) (by simp)).mono ?_
    rintro e w3 ⟨v3, rfl, o3, b3⟩
    exact ⟨v3, rfl, owns_base o3 hb.size, hb.trans (b3.mono hb.size)⟩
  clear HC
  go_region_held (fun w' => w'.cell? ⟨b, 1, none⟩ = some (.slice a1 m.own.length k1) ∧ w'.cell? ⟨b, 2, none⟩ = some (.slice a2 m.waits.length k2)) (go_keep)
    (first | (go_at_call 198; refine HCA.out.mono ?_; rintro e w3 ⟨v3, rfl, o3, b3⟩; have HB3 : Hid (Below w.heap.size w w3) := b3; have HO3 : Hid (w3.ownsRow w.heap.size 38 2 v3 m.all.length (cells m.all)) := o3; obtain ⟨d1, d2⟩ := HS.out _ HB3.out; clear b3 o3))
  clear d1 d2 HCA
  obtain ⟨a3, k3, rfl, w3r⟩ := owns_wide HO3.out
  have HRO : Hid (∀ w', Below w3.heap.size w3 w' → Calls Tryz.prog 196 #[.slice a3 m.all.length k3] w' fun e w'' => e = .returned (.int .i64 (rootE m.all)) ∧ Below w'.heap.size w' w'') := fun w' hb => WalkMiOne.rootOf_any m.all a3 m.all.length k3 w' (w3r.below hb) HF.out
  have HS4 : Hid (∀ w', Below w3.heap.size w3 w' → w'.cell? ⟨b, 4, none⟩ = some (.int .i64 m.next.root)) := fun w' hb => (HL.out.below (bt HB3.out hb)).row.cell (i := 4) (by omega)
  clear w3r HS
  go_upto_region 2 with fail
  have e4 := HS4.out _ (Below.refl _ w3)
  go_region_held (fun w' => w'.cell? ⟨b, 4, none⟩ = some (.int .i64 m.next.root)) (go_keep)
    (first | (go_at_call 196; refine (HRO.out _ (Below.refl _ w3).drew).mono ?_; rintro e w4 ⟨rfl, b4⟩; have HB4 : Hid (Below w3.heap.size w3 w4) := bt (Below.refl _ w3).drew b4; have e4 := HS4.out _ HB4.out; clear b4))
  clear e4 HRO HS4
  have HBW : Hid (Below w.heap.size w w4) := bt HB3.out HB4.out
  have L4 := HL.out.below HBW.out
  by_cases hr : rootE m.all = m.next.root
  · have e1 : (rootE m.all != m.next.root) = false := by rw [hr]; simp
    have HSE : Hid (m.settledE = 0 ∧ gone m = ⟨m.all, m.next, zero, []⟩) := by
      have h0 : m.settledE = 0 := if_pos hr
      refine ⟨h0, ?_⟩
      show (if m.settledE = 0 then m.settled else m) = _
      rw [if_pos h0]
      exact if_pos hr
    have HVB : Hid (∀ k, (Value.slice a3 m.all.length k3).ownBlock = some k → w.heap.size ≤ k) := fun k hk => (HO3.out.lt k hk).1
    have o4 : w4.ownsRow B 38 2 (.slice a3 m.all.length k3) m.all.length (cells m.all) := owns_base (owns_kept HO3.out (Kept.of_below (fun _ => False) HB4.out) fun _ _ q => q) hBw
    have nb : (Value.slice a3 m.all.length k3).ownBlock ≠ some b := fun e => by have h1 := HVB.out b e; have h2 := HL.out.row.lt; omega
    have nv : ∀ k, (Value.slice a3 m.all.length k3).ownBlock = some k → (Value.slice a2 m.waits.length k2).ownBlock ≠ some k := fun k hk e => by have h1 := HVB.out k hk; have h2 := (HL.out.foot_lt k (.inr (.inr e))).2; omega
    have L7 := L4.setOwn m.all _ o4 nb nv
    have K7 : Kept (fun k => k = b) w (w4.setCell ⟨b, 1, none⟩ (.slice a3 m.all.length k3)) := (Kept.of_below (fun k => k = b) HBW.out).setCell (.inl rfl) _
    have HK7 : Hid (Kept (fun k => k = b) w (w4.setCell ⟨b, 1, none⟩ (.slice a3 m.all.length k3))) := K7
    have HL7 : Hid (Lay (w4.setCell ⟨b, 1, none⟩ (.slice a3 m.all.length k3)) B b key { m with own := m.all } (.slice a3 m.all.length k3) (.slice a2 m.waits.length k2)) := L7
    have c1 : w4.cell? ⟨b, 1, none⟩ = some (.slice a1 m.own.length k1) := L4.row.cell (i := 1) (by omega)
    have f1 := L4.row.frozen 1
    have n3 : w4.cell? ⟨b, 3, none⟩ = some (.int .i64 m.next.size) := L4.row.cell (i := 3) (by omega)
    have n4 : w4.cell? ⟨b, 4, none⟩ = some (.int .i64 m.next.root) := L4.row.cell (i := 4) (by omega)
    have n5 : w4.cell? ⟨b, 5, none⟩ = some (.int .i64 m.next.time) := L4.row.cell (i := 5) (by omega)
    have n6 : w4.cell? ⟨b, 6, none⟩ = some (.int .i64 m.next.sign) := L4.row.cell (i := 6) (by omega)
    have g7 : (w4.setCell ⟨b, 1, none⟩ (.slice a3 m.all.length k3)).cell? ⟨b, 7, none⟩ = some (.int .i64 m.head.size) := L7.row.cell (i := 7) (by omega)
    have g8 : (w4.setCell ⟨b, 1, none⟩ (.slice a3 m.all.length k3)).cell? ⟨b, 8, none⟩ = some (.int .i64 m.head.root) := L7.row.cell (i := 8) (by omega)
    have g9 : (w4.setCell ⟨b, 1, none⟩ (.slice a3 m.all.length k3)).cell? ⟨b, 9, none⟩ = some (.int .i64 m.head.time) := L7.row.cell (i := 9) (by omega)
    have g10 : (w4.setCell ⟨b, 1, none⟩ (.slice a3 m.all.length k3)).cell? ⟨b, 10, none⟩ = some (.int .i64 m.head.sign) := L7.row.cell (i := 10) (by omega)
    have z7 := L7.row.frozen 7
    have z8 := L7.row.frozen 8
    have z9 := L7.row.frozen 9
    have z10 := L7.row.frozen 10
    have HL8 : Hid (Lay (put4 (w4.setCell ⟨b, 1, none⟩ (.slice a3 m.all.length k3)) b 7 m.next) B b key { { m with own := m.all } with head := m.next } (.slice a3 m.all.length k3) (.slice a2 m.waits.length k2) ∧ Kept (fun k => k = b) w (put4 (w4.setCell ⟨b, 1, none⟩ (.slice a3 m.all.length k3)) b 7 m.next)) := ⟨HL7.out.setHead m.next, HK7.out.trans (MirObj.kept_put4 _ b 7 m.next) fun _ q => .inl q⟩
    have aH := aggH
    have zH := sizeH
    unfold put4 at HL8
    simp only [Nat.reduceAdd] at HL8
    clear hr L4 L7 K7 o4 nb nv d1 d2 e4 HB3 HB4 HO3
    go_upto_region 5 with fail
    generalize ((((w4.setCell ⟨b, 1, none⟩ (.slice a3 m.all.length k3)).setCell ⟨b, 7, none⟩ (.int .i64 m.next.size)).setCell ⟨b, 8, none⟩ (.int .i64 m.next.root)).setCell ⟨b, 9, none⟩ (.int .i64 m.next.time)).setCell ⟨b, 10, none⟩ (.int .i64 m.next.sign) = w8 at HL8 ⊢
    have cF := WalkMiOne.forget_any HL8.out.1
    clear n3 n4 n5 n6 g7 g8 g9 g10 z7 z8 z9 z10 c1 f1 HL7 HK7
    go_wp2_with fail
    refine cF.mono ?_
    rintro e w9 ⟨rfl, L9, K9⟩
    clear cF
    go_wp2_with fail
    go_ret
    refine ⟨by rw [HSE.out.1]; rfl, _, _, by rw [HSE.out.2]; exact L9, (HL8.out.2.trans K9 fun _ q => .inl q).mono fun k q => .inl q, ?_⟩
    rintro k (rfl | hk | hk)
    · exact .inl (.inl rfl)
    · exact .inr (HVB.out k hk)
    · simp [Value.ownBlock] at hk
  · have e1 : (rootE m.all != m.next.root) = true := by simpa using hr
    have HSE : Hid (m.settledE = 8 ∧ gone m = m) := by
      have h8 : m.settledE = 8 := if_neg hr
      exact ⟨h8, if_neg (by rw [h8]; simp)⟩
    have HFIN : Hid (Turned w B b key (.slice a1 m.own.length k1) (.slice a2 m.waits.length k2) m w4) := Turned.same HL.out HBW.out
    clear L4 hr
    go_wp2_with fail
    go_ret
    refine ⟨by rw [HSE.out.1]; rfl, by rw [HSE.out.2]; exact HFIN.out⟩

end Go.Proofs.YticadkggaanbjaaGreatDoor.WalkMiGo

/-
  What the program's mirror does with a proof and with a head that it hears: takeProof, takeHead.
-/
namespace Go.Proofs.YticadkggaanbjaaGreatDoor.WalkMiTake
open Go.RowKit
open Lists (Row ints bt)
open Keeps (Kept owns_kept owns_base owns_row)
open Wides (Wide owns_wide)
open Heads (Head zero isKey verifyE)
open HeadVals (hv aggH sizeH)
open Entries (Entry entE entsE leafsOf)
open EntRows (cells cells_append)
open Errs (errv errv0 errv_pos)
open Mirrors (Mir Want rootE Ok headE headM proofE proofE0 proofM)
open MirObj (Lay fld foot put4)
open WalkMiGo (Turned gone)
open WalkHdLib (Tabs)

/-- all of them are fine -/
theorem all_fine {key : Int} {m : Mir} (ho : Ok key m) (hl : m.has ≤ 200) : entsE m.all = 0 := by
  refine Entries.ents_of (by show (m.own ++ m.waits).length ≤ 200; rw [List.length_append]; exact hl) fun e he => ?_
  rcases List.mem_append.1 he with he | he
  · exact ho.own e he
  · exact ho.waits e he
/-- what takeProof leaves of it -/
def proofG (m : Mir) (p : List Int) : Mir := if proofE0 m p = 0 then gone m else m

set_option maxHeartbeats 4000000 in
set_option maxRecDepth 100000 in
theorem proof_any {w : World} {B b : Nat} {key : Int} {m : Mir} {v1 v2 : Value} (h : Lay w B b key m v1 v2) (ho : Ok key m) (hn : m.next.size ≠ 0) (hh : (m.has : Int) = m.next.size) (prf : List Int) (a6 : Option Addr) (c6 : Nat) (h6 : Row w a6 prf.length c6 (ints prf)) (hl : prf.length ≤ 17592186043904) :
    Calls Tryz.prog 160 #[.pointer (some ⟨b, 0, none⟩), .slice a6 prf.length c6] w fun e w' => e = .returned (errv (proofE m prf)) ∧ Turned w B b key v1 v2 (proofG m prf) w' := by
  have hHas : m.has ≤ 200 := by have := (Mirrors.size_ok (ho.some hn).1).2; omega
  have HAF : Hid (entsE m.all = 0) := all_fine ho hHas
  have HOF : Hid (entsE m.own = 0) := Entries.ents_of ho.few ho.own
  have HL : Hid (Lay w B b key m v1 v2) := h
  have H6 : Hid (Row w a6 prf.length c6 (ints prf)) := h6
  have HPF : Hid (prf.length ≤ 17592186043904) := hl
  obtain ⟨a1, k1, rfl, _⟩ := owns_wide h.own
  clear h ho hn hh h6 hl hHas
  obtain ⟨P0, HP0⟩ : ∃ P0, Hid (proofE0 m prf = P0) := ⟨_, rfl⟩
  have HE : Hid (proofE m prf = if P0 = 0 then m.settledE else P0) := by show (if proofE0 m prf = 0 then m.settledE else proofE0 m prf) = _; rw [HP0.out]
  have HM : Hid (proofG m prf = if P0 = 0 then gone m else m) := by show (if proofE0 m prf = 0 then gone m else m) = _; rw [HP0.out]
  have HS : Hid (∀ w', Below w.heap.size w w' → w'.cell? ⟨b, 1, none⟩ = some (.slice a1 m.own.length k1) ∧ w'.cell? ⟨b, 3, none⟩ = some (.int .i64 m.next.size) ∧ w'.cell? ⟨b, 4, none⟩ = some (.int .i64 m.next.root)) := fun w' b' => by
    have l := HL.out.below b'
    exact ⟨l.row.cell (i := 1) (by omega), l.row.cell (i := 3) (by omega), l.row.cell (i := 4) (by omega)⟩
  have HCR : Hid (∀ w', Below w.heap.size w w' → Calls Tryz.prog 176 #[.pointer (some ⟨b, 0, none⟩)] w' fun e w'' => e = .returned (.int .i64 (rootE m.own)) ∧ Below w'.heap.size w' w'') := fun w' b' => WalkMiOne.root_any (HL.out.below b') HOF.out
  have HCG : Hid (∀ w', Below w.heap.size w w' → Calls Tryz.prog 18 #[.int .i64 (rootE m.own), .int .i64 (m.own.length : Int), .int .i64 m.next.root, .int .i64 m.next.size, .slice a6 prf.length c6] w' fun e w'' => e = .returned (errv P0) ∧ Below w'.heap.size w' w'') := fun w' b' => by
    rw [← HP0.out]
    exact WalkGrowCheck.check_any _ _ _ _ prf a6 prf.length c6 w' (H6.out.below b') HPF.out
  go_enter Tryz.func160, Tryz.ntmps160
  go_upto_region 1 with fail
  obtain ⟨s1, s3, s4⟩ := HS.out _ (Below.refl _ w).drew
  go_region_held (fun w' => w'.cell? ⟨b, 1, none⟩ = some (.slice a1 m.own.length k1) ∧ w'.cell? ⟨b, 3, none⟩ = some (.int .i64 m.next.size) ∧ w'.cell? ⟨b, 4, none⟩ = some (.int .i64 m.next.root)) (first | exact ⟨s1, s3, s4⟩ | go_keep)
    (first | (go_at_call 176; refine (HCR.out _ (Below.refl _ w).drew).mono ?_; rintro e w5 ⟨rfl, b5⟩; have HB5 : Hid (Below w.heap.size w w5) := bt (Below.refl _ w).drew b5; obtain ⟨s1, s3, s4⟩ := HS.out _ HB5.out; clear b5) | (go_at_call 18; refine (HCG.out _ HB5.out).mono ?_; rintro e w6 ⟨rfl, b6⟩; have HB6 : Hid (Below w.heap.size w w6) := bt HB5.out b6; obtain ⟨s1, s3, s4⟩ := HS.out _ HB6.out; clear b6))
  clear HCR HCG HS s1 s3 s4 HB5
  have L6 := HL.out.below HB6.out
  by_cases hp : P0 = 0
  · have HEM : Hid (proofE m prf = m.settledE ∧ proofG m prf = gone m) := ⟨by rw [HE.out, if_pos hp], by rw [HM.out, if_pos hp]⟩
    have cG := WalkMiGo.goOn_any L6 HAF.out
    rw [hp, errv0]
    clear hp L6 HE HM HP0
    generalize m.settledE = T at *
    go_wp2_with fail
    refine cG.mono ?_
    rintro e w7 ⟨rfl, hT⟩
    have HT : Hid (Turned w B b key (.slice a1 m.own.length k1) v2 (gone m) w7) := hT.from HB6.out
    clear cG hT
    go_wp2_with fail
    go_ret
    exact ⟨by rw [HEM.out.1]; rfl, by rw [HEM.out.2]; exact HT.out⟩
  · have HEM : Hid (proofE m prf = P0 ∧ proofG m prf = m) := ⟨by rw [HE.out, if_neg hp], by rw [HM.out, if_neg hp]⟩
    have HT : Hid (Turned w B b key (.slice a1 m.own.length k1) v2 m w6) := Turned.same HL.out HB6.out
    have HN : Hid (errv P0 = .iface 99 (.int .i64 (P0 : Nat))) := errv_pos _ hp
    rw [HN.out]
    clear hp L6 HE HM HP0
    go_wp2_with fail
    go_ret
    exact ⟨by rw [HEM.out.1, HN.out]; rfl, by rw [HEM.out.2]; exact HT.out⟩

/-- of a head that was verified, and of the one by which it went, the one to go by -/
theorem better_is {key : Int} {m : Mir} (ho : Ok key m) {x : Head} (hv : verifyE x key = 0) : Heads.betterE x m.head = 0 ∧ Heads.betterV x m.head = Heads.more x m.head := by
  have h1 : Heads.headE x = 0 := Heads.headE_zero.2 (Mirrors.verify_ok hv).2.1
  have h2 : Heads.headE m.head = 0 := by
    rcases ho.head with ⟨q, _⟩ | ⟨q, _⟩
    · rw [q]; decide
    · exact Heads.headE_zero.2 (Mirrors.verify_ok q).2.1
  have h3 : Heads.betterE x m.head = 0 := by unfold Heads.betterE; rw [if_pos h1, h2]
  refine ⟨h3, ?_⟩
  unfold Heads.betterV
  rw [h3]
  simp

set_option maxHeartbeats 8000000 in
set_option maxRecDepth 100000 in
theorem head_any {w : World} {B b : Nat} {key : Int} {m : Mir} {v1 v2 : Value} (h : Lay w B b key m v1 v2) (hT : Tabs w) (ho : Ok key m) (x : Head) :
    Calls Tryz.prog 158 #[.pointer (some ⟨b, 0, none⟩), hv x] w fun e w' => e = .returned (errv (headE key m x)) ∧ Turned w B b key v1 v2 (headM key m x) w' := by
  have HOF : Hid (entsE m.own = 0) := Entries.ents_of ho.few ho.own
  have HL : Hid (Lay w B b key m v1 v2) := h
  have HTb : Hid (Tabs w) := hT
  have hown := ho.few
  have HBE : Hid (verifyE x key = 0 → Heads.betterE x m.head = 0 ∧ Heads.betterV x m.head = Heads.more x m.head) := fun q => better_is ho q
  obtain ⟨V0, HV0⟩ : ∃ V0, Hid (verifyE x key = V0) := ⟨_, rfl⟩
  have HE0 : Hid (headE key m x = if V0 = 0 then (if x.size < m.own.length ∨ (x.size = m.own.length ∧ x.root ≠ rootE m.own) then 3 else 0) else V0) := by show _ = _; unfold headE; rw [HV0.out]
  have HM0 : Hid (headM key m x = if headE key m x = 0 then (if (m.own.length : Int) < x.size then { m with next := x } else if Heads.more x m.head = true then { m with head := x } else m) else m) := rfl
  have HCV : Hid (∀ w', Below w.heap.size w w' → Calls Tryz.prog 13 #[hv x, .int .i64 key] w' fun e w'' => e = .returned (errv V0) ∧ Below w'.heap.size w' w'') := fun w' b' => by
    rw [← HV0.out]
    exact WalkHdSign.verify_any x key w' (HTb.out.below b')
  have HCB : Hid (∀ w', Calls Tryz.prog 177 #[hv x, hv m.head] w' fun e w'' => e = .returned (.tuple #[.bool (Heads.betterV x m.head), errv (Heads.betterE x m.head)]) ∧ Below w'.heap.size w' w'') := fun w' => WalkHdOne.better_any x m.head w'
  have HCR : Hid (∀ w', Below w.heap.size w w' → Calls Tryz.prog 176 #[.pointer (some ⟨b, 0, none⟩)] w' fun e w'' => e = .returned (.int .i64 (rootE m.own)) ∧ Below w'.heap.size w' w'') := fun w' b' => WalkMiOne.root_any (HL.out.below b') HOF.out
  obtain ⟨a1, k1, rfl, _⟩ := owns_wide h.own
  clear h hT ho
  have aH := aggH
  have zH := sizeH
  obtain ⟨hs, hrt, ht, hsg⟩ := x
  unfold hv at HCV HCB ⊢
  simp only at HE0 HM0 HCV HCB ⊢
  go_enter Tryz.func158, Tryz.ntmps158
  go_upto_region 1 with fail
  have HD0 : Hid (HeadVals.At (w.alloc (.cells #[.int .i64 hs, .int .i64 hrt, .int .i64 ht, .int .i64 hsg] 31)) w.heap.size ⟨hs, hrt, ht, hsg⟩) := HeadVals.At.new w hs hrt ht hsg
  have HB3 : Hid (Below w.heap.size w (w.alloc (.cells #[.int .i64 hs, .int .i64 hrt, .int .i64 ht, .int .i64 hsg] 31))) := (Below.refl _ _).alloc (Nat.le_refl _) _
  generalize w.alloc (.cells #[.int .i64 hs, .int .i64 hrt, .int .i64 ht, .int .i64 hsg] 31) = w3 at HD0 HB3 ⊢
  obtain ⟨ph, HPH⟩ : ∃ ph, Hid (w.heap.size = ph) := ⟨_, rfl⟩
  have HD : Hid (HeadVals.At w3 ph ⟨hs, hrt, ht, hsg⟩) := by rw [← HPH.out]; exact HD0.out
  rw [show w.heap.size = ph from HPH.out]
  clear HD0
  have HS : Hid (∀ w', Below w3.heap.size w3 w' → (w'.cell? ⟨b, 0, none⟩ = some (.int .i64 key) ∧ w'.cell? ⟨b, 1, none⟩ = some (.slice a1 m.own.length k1)) ∧ w'.cell? ⟨ph, 0, none⟩ = some (.int .i64 hs) ∧ w'.cell? ⟨ph, 1, none⟩ = some (.int .i64 hrt) ∧ w'.cell? ⟨ph, 2, none⟩ = some (.int .i64 ht) ∧ w'.cell? ⟨ph, 3, none⟩ = some (.int .i64 hsg)) := fun w' b' => by
    have l := HL.out.below (bt HB3.out b')
    have d := HD.out.below b'
    exact ⟨⟨l.row.cell (i := 0) (by omega), l.row.cell (i := 1) (by omega)⟩, d.size, d.root, d.time, d.sign⟩
  obtain ⟨⟨s0, s1⟩, t0, t1, t2, t3⟩ := HS.out _ (Below.refl _ w3).drew
  go_region_held (fun w' => w'.cell? ⟨b, 0, none⟩ = some (.int .i64 key) ∧ w'.cell? ⟨ph, 0, none⟩ = some (.int .i64 hs) ∧ w'.cell? ⟨ph, 1, none⟩ = some (.int .i64 hrt) ∧ w'.cell? ⟨ph, 2, none⟩ = some (.int .i64 ht) ∧ w'.cell? ⟨ph, 3, none⟩ = some (.int .i64 hsg)) (first | exact ⟨s0, t0, t1, t2, t3⟩ | go_keep)
    (first | (go_at_call 13; refine (HCV.out _ (HB3.out.drew)).mono ?_; rintro e w4 ⟨rfl, b4⟩; have HB4 : Hid (Below w3.heap.size w3 w4) := bt (Below.refl _ w3).drew b4; obtain ⟨⟨s0, s1⟩, t0, t1, t2, t3⟩ := HS.out _ HB4.out; clear b4))
  clear HCV s0 s1 t0 t1 t2 t3
  have HBw : Hid (Below w.heap.size w w4) := bt HB3.out HB4.out
  have HSw : Hid (∀ w', Below w4.heap.size w4 w' → (w'.cell? ⟨b, 0, none⟩ = some (.int .i64 key) ∧ w'.cell? ⟨b, 1, none⟩ = some (.slice a1 m.own.length k1)) ∧ w'.cell? ⟨ph, 0, none⟩ = some (.int .i64 hs) ∧ w'.cell? ⟨ph, 1, none⟩ = some (.int .i64 hrt) ∧ w'.cell? ⟨ph, 2, none⟩ = some (.int .i64 ht) ∧ w'.cell? ⟨ph, 3, none⟩ = some (.int .i64 hsg)) := fun w' b' => HS.out w' (bt HB4.out b')
  clear HS HB3
  by_cases hv0 : V0 ≠ 0
  · have HEM : Hid (headE key m ⟨hs, hrt, ht, hsg⟩ = V0 ∧ headM key m ⟨hs, hrt, ht, hsg⟩ = m) := by
      have h1 : headE key m ⟨hs, hrt, ht, hsg⟩ = V0 := by rw [HE0.out, if_neg hv0]
      exact ⟨h1, by rw [HM0.out, h1, if_neg hv0]⟩
    have HN : Hid (errv V0 = .iface 99 (.int .i64 (V0 : Nat))) := errv_pos _ hv0
    have HTu : Hid (Turned w B b key (.slice a1 m.own.length k1) v2 m w4) := Turned.same HL.out HBw.out
    rw [HN.out]
    clear hv0 HE0 HM0 HV0
    go_wp2_with fail
    go_ret
    exact ⟨by rw [HEM.out.1, HN.out]; rfl, by rw [HEM.out.2]; exact HTu.out⟩
  have hv0' : V0 = 0 := Decidable.not_not.1 hv0
  have HBT := HBE.out (by rw [HV0.out]; exact hv0')
  have HBV : Hid (Heads.betterE ⟨hs, hrt, ht, hsg⟩ m.head = 0 ∧ Heads.betterV ⟨hs, hrt, ht, hsg⟩ m.head = Heads.more ⟨hs, hrt, ht, hsg⟩ m.head) := HBT
  have HE1 : Hid (headE key m ⟨hs, hrt, ht, hsg⟩ = if hs < m.own.length ∨ (hs = m.own.length ∧ hrt ≠ rootE m.own) then 3 else 0) := by show _ = _; rw [HE0.out, if_pos hv0']
  rw [hv0', errv0]
  clear hv0 hv0' HBT HBE HV0 HE0
  obtain ⟨⟨s0, s1⟩, t0, t1, t2, t3⟩ := HSw.out _ (Below.refl _ w4)
  go_upto_region 4 with fail
  by_cases hgt : (m.own.length : Int) < hs
  · have HEM : Hid (headE key m ⟨hs, hrt, ht, hsg⟩ = 0 ∧ headM key m ⟨hs, hrt, ht, hsg⟩ = { m with next := ⟨hs, hrt, ht, hsg⟩ }) := by
      have h1 : headE key m ⟨hs, hrt, ht, hsg⟩ = 0 := by rw [HE1.out, if_neg (by omega)]
      exact ⟨h1, by rw [HM0.out, if_pos h1, if_pos hgt]⟩
    clear HE1 HM0 HBV HCB HCR
    go_quiet (fail)
    have b5 : Below w4.heap.size w4 (w4.drewN nq) := ⟨rfl, rfl, rfl, Nat.le_refl _, fun _ _ => rfl⟩
    have HB5 : Hid (Below w.heap.size w (w4.drewN nq)) := bt HBw.out b5
    have HS5 := (HSw.out _ b5).2
    clear s0 s1 t0 t1 t2 t3 b5 HSw
    generalize w4.drewN nq = w5 at HB5 HS5 ⊢
    obtain ⟨t0, t1, t2, t3⟩ := HS5
    have L5 := HL.out.below HB5.out
    have c3 : w5.cell? ⟨b, 3, none⟩ = some (.int .i64 m.next.size) := L5.row.cell (i := 3) (by omega)
    have c4 : w5.cell? ⟨b, 4, none⟩ = some (.int .i64 m.next.root) := L5.row.cell (i := 4) (by omega)
    have c5 : w5.cell? ⟨b, 5, none⟩ = some (.int .i64 m.next.time) := L5.row.cell (i := 5) (by omega)
    have c6 : w5.cell? ⟨b, 6, none⟩ = some (.int .i64 m.next.sign) := L5.row.cell (i := 6) (by omega)
    have f3 := L5.row.frozen 3
    have f4 := L5.row.frozen 4
    have f5 := L5.row.frozen 5
    have f6 := L5.row.frozen 6
    have HFIN : Hid (Turned w B b key (.slice a1 m.own.length k1) v2 { m with next := ⟨hs, hrt, ht, hsg⟩ } (put4 w5 b 3 ⟨hs, hrt, ht, hsg⟩)) := ⟨_, _, L5.setNext ⟨hs, hrt, ht, hsg⟩, ((Kept.of_below (fun k => k = b) HB5.out).trans (MirObj.kept_put4 w5 b 3 _) fun _ q => .inl q).mono fun _ q => .inl q, fun _ q => .inl q⟩
    unfold put4 at HFIN
    simp only [Nat.reduceAdd] at HFIN
    clear L5 hgt
    go_wp2_with fail
    go_ret
    exact ⟨by rw [HEM.out.1]; rfl, by rw [HEM.out.2]; exact HFIN.out⟩
  have hd1 : decide ((m.own.length : Int) < hs) = false := decide_eq_false hgt
  have HM1 : Hid (headM key m ⟨hs, hrt, ht, hsg⟩ = if headE key m ⟨hs, hrt, ht, hsg⟩ = 0 then (if Heads.more ⟨hs, hrt, ht, hsg⟩ m.head = true then { m with head := ⟨hs, hrt, ht, hsg⟩ } else m) else m) := by
    show _ = _
    rw [HM0.out, if_neg hgt]
  clear HM0
  have HGT : Hid (¬ (m.own.length : Int) < hs) := hgt
  clear hgt
  go_quiet (fail)
  have b5 : Below w4.heap.size w4 (w4.drewN nq) := ⟨rfl, rfl, rfl, Nat.le_refl _, fun _ _ => rfl⟩
  have HB5 : Hid (Below w.heap.size w (w4.drewN nq)) := bt HBw.out b5
  have HS5 : Hid (∀ w', Below (w4.drewN nq).heap.size (w4.drewN nq) w' → (w'.cell? ⟨b, 1, none⟩ = some (.slice a1 m.own.length k1)) ∧ w'.cell? ⟨ph, 0, none⟩ = some (.int .i64 hs) ∧ w'.cell? ⟨ph, 1, none⟩ = some (.int .i64 hrt) ∧ w'.cell? ⟨ph, 2, none⟩ = some (.int .i64 ht) ∧ w'.cell? ⟨ph, 3, none⟩ = some (.int .i64 hsg)) := fun w' b' => ⟨(HSw.out _ (bt b5 b')).1.2, (HSw.out _ (bt b5 b')).2⟩
  clear s0 s1 t0 t1 t2 t3 b5 HSw hd1
  generalize w4.drewN nq = w5 at HB5 HS5 ⊢
  obtain ⟨s1, t0, t1, t2, t3⟩ := HS5.out _ (Below.refl _ _)
  by_cases hlt : hs < (m.own.length : Int)
  · have HEM : Hid (headE key m ⟨hs, hrt, ht, hsg⟩ = 3 ∧ headM key m ⟨hs, hrt, ht, hsg⟩ = m) := by
      have h1 : headE key m ⟨hs, hrt, ht, hsg⟩ = 3 := by rw [HE1.out, if_pos (.inl hlt)]
      exact ⟨h1, by rw [HM1.out, if_neg (by rw [h1]; simp)]⟩
    have hd2 : decide (hs < (m.own.length : Int)) = true := decide_eq_true hlt
    have HFIN : Hid (∀ w', Below w5.heap.size w5 w' → Turned w B b key (.slice a1 m.own.length k1) v2 m w') := fun w' b' => Turned.same HL.out (bt HB5.out b')
    clear HE1 HM1 HBV HCB HCR hlt
    go_upto_region 7 with fail
    go_quiet (fail)
    go_wp2_with fail
    go_ret
    exact ⟨by rw [HEM.out.1]; rfl, by rw [HEM.out.2]; exact HFIN.out _ ⟨rfl, rfl, rfl, Nat.le_refl _, fun _ _ => rfl⟩⟩
  have hd2 : decide (hs < (m.own.length : Int)) = false := decide_eq_false hlt
  have HEQ : Hid (hs = (m.own.length : Int)) := by have := HGT.out; show _ = _; omega
  clear hlt HGT
  obtain ⟨s1', t0', t1', t2', t3'⟩ := HS5.out _ (Below.refl _ w5).drew
  go_upto_region 7 with fail
  go_region_held (fun w' => w'.cell? ⟨b, 1, none⟩ = some (.slice a1 m.own.length k1) ∧ w'.cell? ⟨ph, 0, none⟩ = some (.int .i64 hs) ∧ w'.cell? ⟨ph, 1, none⟩ = some (.int .i64 hrt)) (first | exact ⟨s1', t0', t1'⟩ | go_keep)
    (first | (go_at_call 176; refine (HCR.out _ (HB5.out.drew)).mono ?_; rintro e w6 ⟨rfl, b6⟩; have HB6 : Hid (Below w5.heap.size w5 w6) := bt (Below.refl _ w5).drew b6; obtain ⟨s1', t0', t1', t2', t3'⟩ := HS5.out _ HB6.out; clear b6))
  clear s1 t0 t1 t2 t3 s1' t0' t1' t2' t3' hd2 HCR
  have HBW6 : Hid (Below w.heap.size w w6) := bt HB5.out HB6.out
  by_cases hrr : hrt = rootE m.own
  rotate_left
  · have HEM : Hid (headE key m ⟨hs, hrt, ht, hsg⟩ = 3 ∧ headM key m ⟨hs, hrt, ht, hsg⟩ = m) := by
      have h1 : headE key m ⟨hs, hrt, ht, hsg⟩ = 3 := by rw [HE1.out, if_pos (.inr ⟨HEQ.out, hrr⟩)]
      exact ⟨h1, by rw [HM1.out, if_neg (by rw [h1]; simp)]⟩
    have e1 : (hrt != rootE m.own) = true := by simpa using hrr
    have HFIN : Hid (Turned w B b key (.slice a1 m.own.length k1) v2 m w6) := Turned.same HL.out HBW6.out
    clear HE1 HM1 HBV HCB hrr
    go_wp2_with fail
    go_ret
    exact ⟨by rw [HEM.out.1]; rfl, by rw [HEM.out.2]; exact HFIN.out⟩
  have e1 : (hrt != rootE m.own) = false := by rw [hrr]; simp
  obtain ⟨V, HV⟩ : ∃ V, Hid (Heads.betterV ⟨hs, hrt, ht, hsg⟩ m.head = V) := ⟨_, rfl⟩
  have HEM : Hid (headE key m ⟨hs, hrt, ht, hsg⟩ = 0 ∧ headM key m ⟨hs, hrt, ht, hsg⟩ = if V = true then { m with head := ⟨hs, hrt, ht, hsg⟩ } else m) := by
    have h1 : headE key m ⟨hs, hrt, ht, hsg⟩ = 0 := by rw [HE1.out, if_neg (fun q => q.elim (fun q => by have := HEQ.out; omega) fun q => q.2 hrr)]
    exact ⟨h1, by rw [HM1.out, if_pos h1, ← HBV.out.2, HV.out]⟩
  have HCB2 : Hid (∀ w', Calls Tryz.prog 177 #[.agg #[.int .i64 hs, .int .i64 hrt, .int .i64 ht, .int .i64 hsg], .agg #[.int .i64 m.head.size, .int .i64 m.head.root, .int .i64 m.head.time, .int .i64 m.head.sign]] w' fun e w'' => e = .returned (.tuple #[.bool V, .nilIface]) ∧ Below w'.heap.size w' w'') := fun w' => by
    have h := HCB.out w'
    rw [HBV.out.1, HV.out, errv0] at h
    exact h
  have HS6 : Hid (∀ w', Below w6.heap.size w6 w' → (w'.cell? ⟨b, 7, none⟩ = some (.int .i64 m.head.size) ∧ w'.cell? ⟨b, 8, none⟩ = some (.int .i64 m.head.root) ∧ w'.cell? ⟨b, 9, none⟩ = some (.int .i64 m.head.time) ∧ w'.cell? ⟨b, 10, none⟩ = some (.int .i64 m.head.sign)) ∧ w'.cell? ⟨ph, 0, none⟩ = some (.int .i64 hs) ∧ w'.cell? ⟨ph, 1, none⟩ = some (.int .i64 hrt) ∧ w'.cell? ⟨ph, 2, none⟩ = some (.int .i64 ht) ∧ w'.cell? ⟨ph, 3, none⟩ = some (.int .i64 hsg)) := fun w' b' => by
    have l := HL.out.below (bt HBW6.out b')
    exact ⟨⟨l.row.cell (i := 7) (by omega), l.row.cell (i := 8) (by omega), l.row.cell (i := 9) (by omega), l.row.cell (i := 10) (by omega)⟩, (HS5.out _ (bt HB6.out b')).2⟩
  clear HE1 HM1 HBV HCB hrr HS5 HEQ HV
  go_upto_region 9 with fail
  obtain ⟨⟨g7, g8, g9, g10⟩, t0, t1, t2, t3⟩ := HS6.out _ (Below.refl _ w6).drew
  go_region_held (fun w' => w'.cell? ⟨b, 7, none⟩ = some (.int .i64 m.head.size) ∧ w'.cell? ⟨b, 8, none⟩ = some (.int .i64 m.head.root) ∧ w'.cell? ⟨b, 9, none⟩ = some (.int .i64 m.head.time) ∧ w'.cell? ⟨b, 10, none⟩ = some (.int .i64 m.head.sign) ∧ w'.cell? ⟨ph, 0, none⟩ = some (.int .i64 hs) ∧ w'.cell? ⟨ph, 1, none⟩ = some (.int .i64 hrt) ∧ w'.cell? ⟨ph, 2, none⟩ = some (.int .i64 ht) ∧ w'.cell? ⟨ph, 3, none⟩ = some (.int .i64 hsg)) (first | exact ⟨g7, g8, g9, g10, t0, t1, t2, t3⟩ | go_keep)
    (first | (go_at_call 177; refine (HCB2.out _).mono ?_; rintro e w7 ⟨rfl, b7⟩; have HB7 : Hid (Below w6.heap.size w6 w7) := bt (Below.refl _ w6).drew b7; obtain ⟨⟨g7, g8, g9, g10⟩, t0, t1, t2, t3⟩ := HS6.out _ HB7.out; clear b7))
  have HBW7 : Hid (Below w.heap.size w w7) := bt HBW6.out HB7.out
  have L7 := HL.out.below HBW7.out
  cases V with
  | false =>
    have HEF : Hid (headM key m ⟨hs, hrt, ht, hsg⟩ = m) := by rw [HEM.out.2]; rfl
    have HFIN : Hid (Turned w B b key (.slice a1 m.own.length k1) v2 m w7) := Turned.same HL.out HBW7.out
    clear L7 g7 g8 g9 g10 t0 t1 t2 t3 HS6
    go_wp2_with fail
    go_ret
    exact ⟨by rw [HEM.out.1]; rfl, by rw [HEF.out]; exact HFIN.out⟩
  | true =>
    have HEF : Hid (headM key m ⟨hs, hrt, ht, hsg⟩ = { m with head := ⟨hs, hrt, ht, hsg⟩ }) := by rw [HEM.out.2]; rfl
    have f7 := L7.row.frozen 7
    have f8 := L7.row.frozen 8
    have f9 := L7.row.frozen 9
    have f10 := L7.row.frozen 10
    have HFIN : Hid (Turned w B b key (.slice a1 m.own.length k1) v2 { m with head := ⟨hs, hrt, ht, hsg⟩ } (put4 w7 b 7 ⟨hs, hrt, ht, hsg⟩)) := ⟨_, _, L7.setHead ⟨hs, hrt, ht, hsg⟩, ((Kept.of_below (fun k => k = b) HBW7.out).trans (MirObj.kept_put4 w7 b 7 _) fun _ q => .inl q).mono fun _ q => .inl q, fun _ q => .inl q⟩
    unfold put4 at HFIN
    simp only [Nat.reduceAdd] at HFIN
    clear L7 HS6
    go_wp2_with fail
    go_ret
    exact ⟨by rw [HEM.out.1]; rfl, by rw [HEF.out]; exact HFIN.out⟩

end Go.Proofs.YticadkggaanbjaaGreatDoor.WalkMiTake

/-
  What the program's mirror does with entries that it hears: takeEntries.
-/
namespace Go.Proofs.YticadkggaanbjaaGreatDoor.WalkMiEnts
open Go.RowKit
open Lists (Row ints bt)
open Keeps (Kept owns_kept owns_base owns_row)
open Wides (Wide owns_wide)
open Heads (Head zero isKey verifyE)
open HeadVals (hv aggH sizeH)
open Entries (Entry entE entsE firstE leafsOf)
open EntRows (cells cells_append)
open Errs (errv errv0 errv_pos)
open Mirrors (Mir Want rootE Ok someE someE0 someM ends)
open MirObj (Lay fld foot put4)
open WalkMiGo (Turned gone)
open WalkMiLists (infoE ones)

/-- what takeEntries leaves of it: on an error at least its own are as they were -/
def Took (w : World) (B b : Nat) (key : Int) (m : Mir) (v1 v2 : Value) (l : List Entry) (e : Ending) (w' : World) : Prop :=
  e = .returned (errv (someE m l)) ∧ ∃ m', Turned w B b key v1 v2 m' w' ∧ (someE m l = 0 → m' = someM m l) ∧ (someE m l ≠ 0 → m'.forget = m.forget)

/-- one entry put behind those of a row of the call's own -/
theorem run_one (w : World) (B : Nat) (v : Value) (l : List Entry) (hown : w.ownsRow B 38 2 v l.length (cells l)) (g : Nat) (t : Int) (d : ByteArray) (h0 : w.cell? ⟨g, 0, none⟩ = some (.int .i64 t)) (h1 : w.cell? ⟨g, 1, none⟩ = some (.string d)) (hl : l.length ≤ 100000) (hB : B ≤ w.heap.size) :
    ∃ v' w', (∀ ty, (Builtin.append_ #[22, 22] ty #[v, .slice (some ⟨g, 0, none⟩) 1 1]).run Tryz.prog w = .ok v' w') ∧ w'.ownsRow B 38 2 v' (l ++ [(t, d)]).length (cells (l ++ [(t, d)])) ∧ Kept (fun k => v.ownBlock = some k) w w' ∧ ∀ k, v'.ownBlock = some k → v.ownBlock = some k ∨ k = w.heap.size := by
  obtain ⟨i0, hi, hz0, hz1, hz2⟩ := info_parts infoE
  obtain ⟨v', w', hr, o', g', _, at'⟩ := run_append_own_at (P := Tryz.prog) w B 22 22 38 i0 (.agg #[.int .i64 0, .string ⟨#[]⟩]) 2 24 Tryz.underlying22 hi hz0 hz1 hz2 rfl (by decide) v l.length (cells l) hown ⟨g, 0, none⟩ 1 1 (cells [(t, d)]) rfl
    (fun j u hj => by
      match j, hj with
      | 0, hj => simp [cells] at hj; subst hj; exact h0
      | 1, hj => simp [cells] at hj; subst hj; exact h1) (ones _) (by unfold maxLen; omega) (by omega) hB
  refine ⟨v', w', fun ty => hr, ?_, (Kept.refl _ w).grown g' fun k hk => .inl hk, fun k hk => ?_⟩
  · rw [cells_append, List.length_append]
    exact o'
  · rcases at' with e | e
    · exact .inl (by rw [← e]; exact hk)
    · rw [e] at hk
      simp only [Option.some.injEq] at hk
      exact .inr hk.symm
/-- append, where its run is known, in a region that draws -/
theorem step_append_run {P : Program} {w : World} {ops : Array Oper} {o : Oper} {a : Act} {K : Act → World → Prop} {Q : Exit → Act → World → Prop} {E : Prop} (hg : o.guard = none) (s x : Operand) (t t' : TypeId)
    (ho : o.op = .call { callee := .builtin .append, args := #[s, x], argTypes := #[t, t'] }) (vs vx : Value) (hs : a.eval s = vs) (hx : a.eval x = vx) (v' : Value) (w' : World)
    (hr : ∀ ty, (Builtin.append_ #[t, t'] ty #[vs, vx]).run P w = .ok v' w') (hK : K (a.put o.dst v') w') :
    if Region.wanted o (yielded ops a.tmps) = true then Oper.wp P o a w K Q else E := by
  rw [if_pos (by simp [Region.wanted, hg])]
  exact Lib.wp_append_run w s x t t' ho vs vx hs hx v' w' (hr _) hK

/-- so far: the first k wait, too -/
structure Far (w : World) (B b : Nat) (key : Int) (m : Mir) (v1 v2 : Value) (l : List Entry) (k : Nat) (wr : World) : Prop where
  lay : ∃ x, Lay wr B b key (m.with (l.take k)) v1 x ∧ ∀ i, x.ownBlock = some i → v2.ownBlock = some i ∨ w.heap.size ≤ i
  kept : Kept (foot b v1 v2) w wr
  fine : ∀ e ∈ l.take k, entE e = 0
theorem Far.turned {w wr : World} {B b : Nat} {key : Int} {m : Mir} {v1 v2 : Value} {l : List Entry} {k : Nat} (h : Far w B b key m v1 v2 l k wr) : Turned w B b key v1 v2 (m.with (l.take k)) wr := by
  obtain ⟨x, h1, h2⟩ := h.lay
  refine ⟨v1, x, h1, h.kept, ?_⟩
  rintro i (q | q | q)
  · exact .inl (.inl q)
  · exact .inl (.inr (.inl q))
  · exact (h2 i q).imp (fun q => .inr (.inr q)) id
theorem Far.below {w wr w' : World} {B b : Nat} {key : Int} {m : Mir} {v1 v2 : Value} {l : List Entry} {k : Nat} (h : Far w B b key m v1 v2 l k wr) (hb : Below wr.heap.size wr w') : Far w B b key m v1 v2 l k w' := by
  obtain ⟨x, h1, h2⟩ := h.lay
  exact ⟨⟨x, h1.below hb, h2⟩, h.kept.then hb, h.fine⟩
theorem wide_kept {S : Nat → Prop} {s : Nat} {w w' : World} {a : Option Addr} {n cap : Nat} {xs : List Value} (h : Wide s w a n cap xs) (k : Kept S w w') (hS : ∀ p, 0 < n → a = some p → ¬ S p.block) : Wide s w' a n cap xs := by
  refine ⟨h.1, h.2.1, fun h0 => ?_⟩
  obtain ⟨b, off, rfl, hc⟩ := h.2.2 h0
  refine ⟨b, off, rfl, fun j u hj => ?_⟩
  have h1 := hc j u hj
  rw [k.cell (Lists.block_lt h1) (hS ⟨b, off, none⟩ h0 rfl)]
  exact h1

/-- one more of them -/
theorem Far.next {w w2 w4 : World} {B b : Nat} {key : Int} {m : Mir} {v1 v2 : Value} {l : List Entry} {k : Nat} (hF : Far w B b key m v1 v2 l k w2) {x : Value} (hx : Lay w2 B b key (m.with (l.take k)) v1 x) (hxi : ∀ i, x.ownBlock = some i → v2.ownBlock = some i ∨ w.heap.size ≤ i)
    (hb : Below w2.heap.size w2 w4) {t : Int} {d : ByteArray} (he : entE (t, d) = 0) (hT : l.take (k + 1) = l.take k ++ [(t, d)]) (hl : (m.with (l.take k)).waits.length ≤ 1000) :
    ∃ an cn wn, (∀ ty, (Builtin.append_ #[22, 22] ty #[x, .slice (some ⟨w4.heap.size, 0, none⟩) 1 1]).run Tryz.prog (w4.alloc (.cells #[.int .i64 t, .string d] 38)) = .ok (.slice an ((m.with (l.take k)).waits.length + 1) cn) wn) ∧ wn.cell? ⟨b, 2, none⟩ = some x ∧ wn.frozen? ⟨b, 2, none⟩ = false ∧ (∀ p u, w4.cell? p = some u → x.ownBlock ≠ some p.block → wn.cell? p = some u) ∧ Far w B b key m v1 v2 l (k + 1) (wn.setCell ⟨b, 2, none⟩ (.slice an ((m.with (l.take k)).waits.length + 1) cn)) := by
  have ba : Below w2.heap.size w2 (w4.alloc (.cells #[.int .i64 t, .string d] 38)) := hb.alloc hb.size _
  have La := hx.below ba
  obtain ⟨vn, wn, rn, on, kn, fn⟩ := run_one (w4.alloc (.cells #[.int .i64 t, .string d] 38)) B x _ La.waits w4.heap.size t d (by simp) (by simp) (by omega) (Nat.le_of_lt (Nat.lt_of_le_of_lt La.above La.row.lt))
  have rwn : wn.rowIs b 119 11 (fld key v1 (m.with (l.take k)).head (m.with (l.take k)).next x) := La.row.of_block (kn.block b La.row.lt (fun e => La.ap2 e))
  have own : wn.ownsRow B 38 2 v1 m.own.length (cells m.own) := owns_kept La.own kn fun i hi e => La.ap3 i hi e
  have nb : vn.ownBlock ≠ some b := fun e => by
    rcases fn b e with h | h
    · exact La.ap2 h
    · have := La.row.lt
      omega
  have nv : ∀ k, v1.ownBlock = some k → vn.ownBlock ≠ some k := fun k hk e => by
    rcases fn k e with h | h
    · exact La.ap3 k hk h
    · have := (La.own.lt k hk).2
      omega
  have hw : (m.with (l.take k)).waits ++ [(t, d)] = (m.with (l.take (k + 1))).waits := by
    show (m.waits ++ l.take k) ++ [(t, d)] = m.waits ++ l.take (k + 1)
    rw [hT, List.append_assoc]
  have hwl : ((m.with (l.take k)).waits ++ [(t, d)]).length = (m.with (l.take k)).waits.length + 1 := by rw [List.length_append]; rfl
  rw [hw] at on
  have hlen : (m.with (l.take (k + 1))).waits.length = (m.with (l.take k)).waits.length + 1 := by rw [← hw]; exact hwl
  obtain ⟨an, cn, rfl, _⟩ := owns_wide on
  have L8 : Lay (wn.setCell ⟨b, 2, none⟩ (.slice an (m.with (l.take (k + 1))).waits.length cn)) B b key (m.with (l.take (k + 1))) v1 (.slice an (m.with (l.take (k + 1))).waits.length cn) :=
    ⟨MirObj.row_waits rwn _, MirObj.owns_off own (MirObj.kept_set wn b 2 _) La.ap1, MirObj.owns_off on (MirObj.kept_set wn b 2 _) nb, La.above, La.ap1, nb, nv⟩
  rw [hlen] at L8 rn on fn
  refine ⟨an, cn, wn, rn, rwn.cell (i := 2) (by omega), rwn.frozen 2, fun p u hp hq => ?_, ⟨⟨_, L8, fun i hi => ?_⟩, ?_, ?_⟩⟩
  · have h1 : (w4.alloc (.cells #[.int .i64 t, .string d] 38)).cell? p = some u := Lists.cell_below ((Below.refl _ w4).alloc (Nat.le_refl _) _) hp
    rw [kn.cell (Lists.block_lt h1) hq]
    exact h1
  · rcases fn i hi with h | h
    · exact hxi i h
    · refine .inr ?_
      have h1 := hF.kept.size
      have h2 := ba.size
      omega
  · refine (((hF.kept.then ba).trans kn fun i hi => ?_).setCell (.inl (.inl rfl)) _)
    exact (hxi i hi).imp (fun q => .inr (.inr q)) id
  · rw [hT]
    intro e hm
    rcases List.mem_append.1 hm with hm | hm
    · exact hF.fine e hm
    · rw [List.mem_singleton.1 hm]
      exact he

theorem want_small {key : Int} {m : Mir} (ho : Ok key m) (hw : m.want.what = 2) : m.want.to_ - m.want.fr ≤ 16 ∧ (m.has : Int) + (m.want.to_ - m.want.fr) ≤ 200 ∧ m.next.size ≠ 0 ∧ (m.has : Int) + (m.want.to_ - m.want.fr) ≤ m.next.size := by
  obtain ⟨w1, w2, w3, w4⟩ := Mirrors.want_two hw
  have h1 := (Mirrors.size_ok (ho.some w1).1).2
  rw [w3, w4]
  split <;> omega

set_option maxHeartbeats 8000000 in
set_option maxRecDepth 100000 in
theorem ents_any {w : World} {B b : Nat} {key : Int} {m : Mir} {v1 v2 : Value} (h : Lay w B b key m v1 v2) (ho : Ok key m) (hw : m.want.what = 2) (l : List Entry) (a5 : Option Addr) (c5 : Nat) (h5 : Wide 2 w a5 l.length c5 (cells l)) (hz : ∀ e ∈ l, e.2.size ≤ maxLen) (hl : l.length ≤ 17592186043904) (d5 : ∀ p, 0 < l.length → a5 = some p → ¬ foot b v1 v2 p.block) (M : Int) (hM : M = m.want.to_ - m.want.fr) :
    Calls Tryz.prog 159 #[.pointer (some ⟨b, 0, none⟩), .slice a5 l.length c5, .int .i64 M] w fun e w' => Took w B b key m v1 v2 l e w' := by
  obtain ⟨s1, s2, s3, s4⟩ := want_small ho hw
  rw [← hM] at s1 s2 s4
  have HX4 : Hid ((m.has : Int) + M ≤ m.next.size) := s4
  clear s4
  obtain ⟨a1, k1, rfl, _⟩ := owns_wide h.own
  have HL : Hid (Lay w B b key m (.slice a1 m.own.length k1) v2) := h
  have HO : Hid (Ok key m) := ho
  have H5 : Hid (Wide 2 w a5 l.length c5 (cells l)) := h5
  have HZ : Hid (∀ e ∈ l, e.2.size ≤ maxLen) := hz
  have HD : Hid (∀ p, 0 < l.length → a5 = some p → ¬ foot b (.slice a1 m.own.length k1) v2 p.block) := d5
  have HS0 : Hid (someE0 m l = if l.length = 0 ∨ M < l.length then 3 else entsE l) := by show _ = _; rw [hM]; rfl
  have aE := WalkEntOne.aggE
  have zE := WalkEntOne.sizeE
  clear h ho h5 hz d5 hM hw
  have HBad : Hid (someE0 m l ≠ 0 → ∀ w', ∀ m', Turned w B b key (.slice a1 m.own.length k1) v2 m' w' → m'.forget = m.forget → Took w B b key m (.slice a1 m.own.length k1) v2 l (.returned (errv (someE0 m l))) w') := fun hne w' m' hT hm => by
    have hE : someE m l = someE0 m l := by unfold someE; rw [if_neg hne]
    exact ⟨by rw [hE], m', hT, fun q => absurd (hE.symm.trans q) hne, fun _ => hm⟩
  by_cases hbad : l.length = 0 ∨ M < l.length
  · have hE : someE0 m l = 3 := by rw [HS0.out, if_pos hbad]
    have HFIN : Hid (Took w B b key m (.slice a1 m.own.length k1) v2 l (.returned (errv 3)) w) := by
      have h := HBad.out (by rw [hE]; omega) w m (Turned.same HL.out (Below.refl _ _)) rfl
      rw [hE] at h
      exact h
    clear HBad HS0 hE
    by_cases h0 : l.length = 0
    · have e0 : ((l.length : Int) == 0) = true := by rw [h0]; rfl
      clear h0 hbad
      go_enter Tryz.func159, Tryz.ntmps159
      go_wp2_with fail
      go_ret
      exact HFIN.out
    · have e0 : ((l.length : Int) == 0) = false := by rw [beq_eq_false_iff_ne]; omega
      have i1 : M < (l.length : Int) := by omega
      clear h0 hbad
      go_enter Tryz.func159, Tryz.ntmps159
      go_wp2_with fail
      go_ret
      exact HFIN.out
  · have i0 : 0 < l.length := by omega
    have i1 : ¬ M < (l.length : Int) := by omega
    have e0 : ((l.length : Int) == 0) = false := by rw [beq_eq_false_iff_ne]; omega
    have HS1 : Hid (someE0 m l = firstE l) := by
      show _ = _
      rw [HS0.out, if_neg hbad]
      unfold entsE
      rw [if_neg (by omega)]
    obtain ⟨b5, off5, rfl, _⟩ := H5.out.2.2 i0
    obtain ⟨n, hn⟩ : ∃ n, n = l.length := ⟨_, rfl⟩
    have HN : Hid (n = l.length) := hn
    rw [← hn] at e0 i1 i0 H5 HD hl ⊢
    clear hbad HS0 hn
    go_enter Tryz.func159, Tryz.ntmps159
    go_wp2_with fail
    go_loopw [22] (fun i wr => ∃ k : Nat, k ≤ n ∧ i = .int .i64 (k : Int) ∧ Hid (Far w B b key m (.slice a1 m.own.length k1) v2 l k wr)) (fun i _ => n - (intOf i).toNat)
    case atStart => exact ⟨0, Nat.zero_le _, rfl, ⟨⟨v2, by show Lay w B b key { m with waits := m.waits ++ [] } (.slice a1 m.own.length k1) v2; rw [List.append_nil]; exact HL.out, fun i q => .inl q⟩, Kept.refl _ _, fun e he => by simp at he⟩⟩
    case round =>
      obtain ⟨k, hk, rfl, HF⟩ := hrel
      by_cases hlt : k < n
      · have i2 : (k : Int) < (n : Int) := by omega
        have hkl : k < l.length := by rw [← HN.out]; exact hlt
        have H5k : Hid (Wide 2 wr (some ⟨b5, off5, none⟩) n c5 (cells l)) := wide_kept H5.out HF.out.kept HD.out
        obtain ⟨p0, p1⟩ := EntRows.at_two H5k.out k hkl
        have HT : Hid (l.take (k + 1) = l.take k ++ [l[k]'hkl]) := List.take_succ_eq_append_getElem hkl
        have HNx : Hid (entE (l[k]'hkl) ≠ 0 → firstE l = entE (l[k]'hkl)) := fun h => Entries.firstE_at hkl HF.out.fine h
        have HM : Hid ((l[k]'hkl).2.size ≤ maxLen) := HZ.out _ (List.getElem_mem _)
        generalize l[k]'hkl = x at p0 p1 HT HNx HM
        obtain ⟨t, d⟩ := x
        simp only at p0 p1
        clear H5k hkl
        go_wp2_with fail
        refine (WalkEntOne.check_any t d _ HM.out).mono ?_
        rintro e w2 ⟨rfl, b2⟩
        have ba : Below wr.heap.size wr (wr.alloc (.cells #[.int .i64 t, .string d] 38)) := (Below.refl _ _).alloc (Nat.le_refl _) _
        have g0 : (wr.alloc (.cells #[.int .i64 t, .string d] 38)).cell? ⟨wr.heap.size, 0, none⟩ = some (.int .i64 t) := by simp
        have g1 : (wr.alloc (.cells #[.int .i64 t, .string d] 38)).cell? ⟨wr.heap.size, 1, none⟩ = some (.string d) := by simp
        have HB2 : Hid (Below wr.heap.size wr w2) := bt ba b2
        have HG : Hid (w2.cell? ⟨wr.heap.size, 0, none⟩ = some (.int .i64 t) ∧ w2.cell? ⟨wr.heap.size, 1, none⟩ = some (.string d)) := ⟨Lists.cell_below b2 g0, Lists.cell_below b2 g1⟩
        have HF2 : Hid (Far w B b key m (.slice a1 m.own.length k1) v2 l k w2) := HF.out.below HB2.out
        obtain ⟨g, hg⟩ : ∃ g, wr.heap.size = g := ⟨_, rfl⟩
        have HGz : Hid (g < w2.heap.size ∧ ∀ x, Lay wr B b key (m.with (l.take k)) (.slice a1 m.own.length k1) x → ∀ i, foot b (.slice a1 m.own.length k1) x i → i < g) := ⟨by rw [← hg]; exact Nat.lt_of_lt_of_le (by simp) b2.size, fun x hx i hi => by rw [← hg]; exact (hx.foot_lt i hi).2⟩
        have hLk := HF.out.lay
        rw [hg] at HG ⊢
        clear ba g0 g1 b2 p0 p1
        by_cases h0 : entE (t, d) = 0
        · have hd2 : d.size ≤ 200 := (Entries.ent_ok h0).2.2
          have HCO : Hid (∀ w', Calls Tryz.prog 178 #[.agg #[.int .i64 t, .string d]] w' fun e w'' => e = .returned (.agg #[.int .i64 t, .string d]) ∧ Below w'.heap.size w' w'') := fun w' => WalkMiOne.ownCopy_any t d w' hd2
          obtain ⟨x, hx0, hxi⟩ := HF.out.lay
          have HLx : Hid (Lay wr B b key (m.with (l.take k)) (.slice a1 m.own.length k1) x) := hx0
          have hx := hx0.below HB2.out
          clear hx0
          have hlq : (m.with (l.take k)).waits.length ≤ 1000 := by
            have h1 := WalkMiOne.few_waits HO.out
            have h2 := HN.out
            show (m.waits ++ l.take k).length ≤ 1000
            rw [List.length_append, List.length_take]
            omega
          have HNX : Hid (∀ w4, Below w2.heap.size w2 w4 → ∃ an cn wn, (∀ ty, (Builtin.append_ #[22, 22] ty #[x, .slice (some ⟨w4.heap.size, 0, none⟩) 1 1]).run Tryz.prog (w4.alloc (.cells #[.int .i64 t, .string d] 38)) = .ok (.slice an ((m.with (l.take k)).waits.length + 1) cn) wn) ∧ wn.cell? ⟨b, 2, none⟩ = some x ∧ wn.frozen? ⟨b, 2, none⟩ = false ∧ (∀ p u, w4.cell? p = some u → x.ownBlock ≠ some p.block → wn.cell? p = some u) ∧ Far w B b key m (.slice a1 m.own.length k1) v2 l (k + 1) (wn.setCell ⟨b, 2, none⟩ (.slice an ((m.with (l.take k)).waits.length + 1) cn))) := fun w4 hb => HF2.out.next hx hxi hb h0 HT.out hlq
          have HC2 : Hid (∀ w', Below w2.heap.size w2 w' → w'.cell? ⟨b, 2, none⟩ = some x) := fun w' hb => (hx.below hb).row.cell (i := 2) (by omega)
          have HXG : Hid (x.ownBlock ≠ some g) := fun e => by have h1 := HGz.out.2 x HLx.out g (.inr (.inr e)); omega
          have HGB : Hid (b ≠ g) := fun e => by have h1 := HGz.out.2 x HLx.out b (.inl rfl); omega
          have HK : Hid (∀ w', Below w2.heap.size w2 w' → w'.cell? ⟨g, 0, none⟩ = some (.int .i64 t) ∧ w'.cell? ⟨g, 1, none⟩ = some (.string d)) := fun w' hb => ⟨Lists.cell_below hb HG.out.1, Lists.cell_below hb HG.out.2⟩
          obtain ⟨ax, cx, rfl, _⟩ := owns_wide hx.waits
          rw [h0, errv0]
          generalize (m.with (l.take k)).waits.length = Q at *
          clear h0 hx hxi hd2 HF HF2 hLk HGz HBad HM HT HNx HLx
          go_upto_region 9 with fail
          obtain ⟨q0, q1⟩ := HG.out
          have q2 := HC2.out _ (Below.refl _ w2)
          go_region_law (first | (refine step_append_run rfl (.tmp 35) (.tmp 38) 22 22 rfl (.slice ax Q cx) (.slice (some ⟨w4.heap.size, 0, none⟩) 1 1) (by simp [Act.eval]) (by simp [Act.eval]) _ _ rn ?_) | (go_simp; go_at_call 178; refine (HCO.out _).mono ?_; rintro e w4 ⟨rfl, b4⟩; have HB4 : Hid (Below w2.heap.size w2 w4) := bt (Below.refl _ w2).drew b4; have q2 := HC2.out _ HB4.out; have q3 := HC2.out (w4.alloc (.cells #[.int .i64 t, .string d] 38)) (HB4.out.alloc HB4.out.size _); obtain ⟨an, cn, wn, rn, z2, zf, hst, hFn⟩ := HNX.out w4 HB4.out; have HFn : Hid (Far w B b key m (.slice a1 m.own.length k1) v2 l (k + 1) (wn.setCell ⟨b, 2, none⟩ (.slice an (Q + 1) cn))) := hFn; clear b4 hFn hst))
          all_goals
            go_wp2_with fail
            go_roundw
            case rel => exact ⟨k + 1, by omega, by go_num, HFn⟩
            case measure => simp [intOf]; omega
        · have HFF : Hid (Took w B b key m (.slice a1 m.own.length k1) v2 l (.returned (errv (entE (t, d)))) w2) := by
            have he : someE0 m l = entE (t, d) := HS1.out.trans (HNx.out h0)
            have h := HBad.out (by rw [he]; exact h0) w2 _ HF2.out.turned rfl
            rw [he] at h
            exact h
          have HEr : Hid (errv (entE (t, d)) = .iface 99 (.int .i64 (entE (t, d) : Nat))) := errv_pos _ h0
          rw [HEr.out] at HFF ⊢
          clear h0 HEr
          generalize ((entE (t, d) : Nat) : Int) = E at HFF ⊢
          go_wp2_with fail
          go_ret
          exact HFF.out
      · obtain rfl : k = n := by omega
        have i2 : ¬ (k : Int) < (k : Int) := by omega
        have htk : l.take k = l := List.take_of_length_le (by rw [HN.out]; exact Nat.le_refl _)
        have hfine := HF.out.fine
        obtain ⟨x, hx, hxi⟩ := HF.out.lay
        have hkp := HF.out.kept
        rw [htk] at hfine hx
        have HE0 : Hid (someE0 m l = 0) := HS1.out.trans (Entries.firstE_zero.2 hfine)
        have hff : ∀ i, foot b (.slice a1 m.own.length k1) x i → foot b (.slice a1 m.own.length k1) v2 i ∨ w.heap.size ≤ i := by
          rintro i (q | q | q)
          · exact .inl (.inl q)
          · exact .inl (.inr (.inl q))
          · exact (hxi i q).imp (fun q => .inr (.inr q)) id
        have HSE : Hid (someE m l = if ends (m.with l) = true then (m.with l).settledE else 0) := by show _ = _; unfold someE; rw [if_pos HE0.out]
        have HSM : Hid (someM m l = if ends (m.with l) = true then (m.with l).settled else m.with l) := by show _ = _; unfold someM; rw [if_pos HE0.out]
        have hsome := HO.out.some s3
        have hWl : (m.with l).waits.length = m.waits.length + k := by show (m.waits ++ l).length = _; rw [List.length_append, HN.out]
        have HQ : Hid ((m.own.length : Int) + (m.with l).waits.length ≤ m.next.size) := by
          have h1 : (m.has : Int) = ((m.own.length + m.waits.length : Nat) : Int) := rfl
          have h2 := HX4.out
          show _ ≤ _
          rw [hWl]
          omega
        have HFI : Hid (entsE (m.with l).all = 0) := by
          refine Entries.ents_of ?_ ?_
          · show (m.own ++ (m.waits ++ l)).length ≤ 200
            have h1 : (m.has : Int) = ((m.own.length + m.waits.length : Nat) : Int) := rfl
            rw [List.length_append, List.length_append, ← HN.out]
            omega
          · intro e he
            rcases List.mem_append.1 he with he | he
            · exact HO.out.own e he
            · rcases List.mem_append.1 he with he | he
              · exact HO.out.waits e he
              · exact hfine e he
        have HNo : Hid (ends (m.with l) = false → ∀ w', Below wr.heap.size wr w' → Took w B b key m (.slice a1 m.own.length k1) v2 l (.returned (errv 0)) w') := fun hend w' b' => by
          have h1 : someE m l = 0 := by rw [HSE.out, if_neg (by rw [hend]; simp)]
          refine ⟨by rw [h1], m.with l, ⟨(.slice a1 m.own.length k1), x, hx.below b', hkp.then b', hff⟩, fun _ => by rw [HSM.out, if_neg (by rw [hend]; simp)], fun q => absurd h1 q⟩
        have HLx : Hid (Lay wr B b key (m.with l) (.slice a1 m.own.length k1) x) := hx
        have HKp : Hid (Kept (foot b (.slice a1 m.own.length k1) v2) w wr ∧ ∀ i, foot b (.slice a1 m.own.length k1) x i → foot b (.slice a1 m.own.length k1) v2 i ∨ w.heap.size ≤ i) := ⟨hkp, hff⟩
        have c1 : wr.cell? ⟨b, 1, none⟩ = some (.slice a1 m.own.length k1) := hx.row.cell (i := 1) (by omega)
        have c2 : wr.cell? ⟨b, 2, none⟩ = some x := hx.row.cell (i := 2) (by omega)
        have c3 : wr.cell? ⟨b, 3, none⟩ = some (.int .i64 m.next.size) := hx.row.cell (i := 3) (by omega)
        obtain ⟨a2, k2, rfl, _⟩ := owns_wide hx.waits
        have HEn : Hid (ends (m.with l) = decide (m.own.length = 0 ∧ ((m.with l).waits.length : Int) = m.next.size)) := rfl
        have hWs : (m.with l).waits.length ≤ 1000 := by rw [hWl]; have := WalkMiOne.few_waits HO.out; omega
        generalize (m.with l).waits.length = Q at *
        clear hx hxi hkp hff hfine hsome hWl HF HL HBad HE0 HS1 H5 HD HO HZ
        go_upto_region 11 with fail
        by_cases ho0 : 0 < m.own.length
        · have hd1 : decide (0 < m.own.length) = true := decide_eq_true ho0
          have HFI2 : Hid (∀ w', Below wr.heap.size wr w' → Took w B b key m (.slice a1 m.own.length k1) v2 l (.returned (errv 0)) w') := HNo.out (by rw [HEn.out]; exact decide_eq_false fun q => by omega)
          clear ho0 HNo HEn HQ
          go_quiet (fail)
          go_wp2_with fail
          go_ret
          exact HFI2.out _ ⟨rfl, rfl, rfl, Nat.le_refl _, fun _ _ => rfl⟩
        have hd1 : decide (0 < m.own.length) = false := decide_eq_false ho0
        by_cases hq : (Q : Int) < m.next.size
        · have hd2 : decide ((Q : Int) < m.next.size) = true := decide_eq_true hq
          have HFI2 : Hid (∀ w', Below wr.heap.size wr w' → Took w B b key m (.slice a1 m.own.length k1) v2 l (.returned (errv 0)) w') := HNo.out (by rw [HEn.out]; exact decide_eq_false fun q => by omega)
          clear ho0 HNo HEn HQ hq
          go_quiet (fail)
          go_wp2_with fail
          go_ret
          exact HFI2.out _ ⟨rfl, rfl, rfl, Nat.le_refl _, fun _ _ => rfl⟩
        · have hd2 : decide ((Q : Int) < m.next.size) = false := decide_eq_false hq
          have hend : ends (m.with l) = true := by
            have h1 := HQ.out
            rw [HEn.out]
            exact decide_eq_true ⟨by omega, by omega⟩
          have HEM : Hid (someE m l = (m.with l).settledE ∧ someM m l = (m.with l).settled) := ⟨by rw [HSE.out, if_pos hend], by rw [HSM.out, if_pos hend]⟩
          clear ho0 HNo HEn HQ hq hend HSE HSM
          go_quiet (fail)
          have b9 : Below wr.heap.size wr (wr.drewN nq) := ⟨rfl, rfl, rfl, Nat.le_refl _, fun _ _ => rfl⟩
          have L9 := HLx.out.below b9
          have HK9 : Hid (Kept (foot b (.slice a1 m.own.length k1) v2) w (wr.drewN nq)) := HKp.out.1.then b9
          clear b9 c1 c2 c3
          generalize wr.drewN nq = w9 at L9 HK9 ⊢
          have cG := WalkMiGo.goOn_any L9 HFI.out
          obtain ⟨T, HT⟩ : ∃ T, Hid ((m.with l).settledE = T) := ⟨_, rfl⟩
          rw [HT.out] at cG
          clear L9
          go_wp2_with fail
          refine cG.mono ?_
          rintro e w7 ⟨rfl, hS⟩
          have HS7 : Hid (Turned w B b key (.slice a1 m.own.length k1) v2 (gone (m.with l)) w7) := Turned.trans HK9.out HKp.out.2 hS
          clear cG hS
          go_wp2_with fail
          go_ret
          refine ⟨by rw [HEM.out.1, HT.out]; rfl, gone (m.with l), HS7.out, fun q => ?_, fun q => ?_⟩
          · rw [HEM.out.1] at q
            rw [HEM.out.2]
            exact if_pos q
          · rw [HEM.out.1] at q
            show (gone (m.with l)).forget = m.forget
            unfold gone
            rw [if_neg q]
            rfl

end Go.Proofs.YticadkggaanbjaaGreatDoor.WalkMiEnts

/-
  What the program's mirror does when it hears a reply: take, Hear.
-/
namespace Go.Proofs.YticadkggaanbjaaGreatDoor.WalkMiHear
open Go.RowKit
open Lists (Row ints bt)
open Keeps (Kept owns_kept owns_base owns_row)
open Wides (Wide owns_wide)
open Heads (Head zero isKey verifyE)
open HeadVals (hv aggH sizeH)
open Entries (Entry entE entsE firstE leafsOf)
open EntRows (cells cells_append)
open Errs (errv errv0 errv_pos)
open Mirrors (Mir Want Reply rootE Ok headE headM someE someE0 someM ends proofE proofE0 proofM hearE hearM)
open MirObj (Lay fld foot put4)
open MirVals (rv wv aggR sizeR aggW sizeW cell7)
open ReplyRows (RFine)
open WalkMiGo (Turned gone)
open WalkMiTake (proofG)
open WalkMiEnts (Took)
open WalkHdLib (Tabs)

/-- on an error of entries, or of a proof, all that was heard is forgotten -/
theorem some_bad {m : Mir} {l : List Entry} (h : someE m l ≠ 0) : someM m l = m.forget := by
  unfold someE at h
  unfold someM
  split at h
  · rename_i h0
    rw [if_pos h0]
    split at h
    · rename_i h1
      rw [if_pos h1]
      unfold Mir.settledE at h
      unfold Mir.settled
      split at h
      · exact absurd rfl h
      · rename_i h2
        rw [if_neg h2]
        rfl
    · exact absurd rfl h
  · rename_i h0
    rw [if_neg h0]
theorem proof_bad {m : Mir} {p : List Int} (h : proofE m p ≠ 0) : proofM m p = m.forget ∧ proofG m p = m := by
  unfold proofE at h
  unfold proofM proofG gone
  split at h
  · rename_i h0
    rw [if_pos h0, if_pos h0]
    refine ⟨?_, if_neg h⟩
    unfold Mir.settledE at h
    unfold Mir.settled
    split at h
    · exact absurd rfl h
    · rename_i h2
      rw [if_neg h2]
  · rename_i h0
    rw [if_neg h0, if_neg h0]
    exact ⟨rfl, rfl⟩
theorem proof_good {m : Mir} {p : List Int} (h : proofE m p = 0) : proofG m p = proofM m p := by
  unfold proofE at h
  unfold proofM proofG gone
  split at h
  · rename_i h0
    rw [if_pos h0, if_pos h0, if_pos h]
  · rename_i h0
    exact absurd h h0
/-- it forgets -/
theorem Turned.forget {w w1 w' : World} {B b : Nat} {key : Int} {m' : Mir} {v1 v2 x1 x2 : Value} (hk : Kept (foot b v1 v2) w w1) (hf : ∀ k, foot b x1 x2 k → foot b v1 v2 k ∨ w.heap.size ≤ k) (h : Lay w' B b key m'.forget x1 (.slice none 0 0)) (k : Kept (fun k => k = b) w1 w') : Turned w B b key v1 v2 m'.forget w' := by
  refine ⟨x1, .slice none 0 0, h, hk.trans k fun i hi => .inl (.inl hi), ?_⟩
  rintro i (q | q | q)
  · exact .inl (.inl q)
  · exact hf i (.inr (.inl q))
  · simp [Value.ownBlock] at q

set_option maxHeartbeats 8000000 in
set_option maxRecDepth 100000 in
theorem take_any {w : World} {B b : Nat} {key : Int} {m : Mir} {v1 v2 : Value} (h : Lay w B b key m v1 v2) (hT : Tabs w) (ho : Ok key m) (r : Reply) (hr : RFine r) (hw : r.what = m.want.what) (hz : r.what ≠ 0) (a5 : Option Addr) (c5 : Nat) (a6 : Option Addr) (c6 : Nat)
    (h5 : Wide 2 w a5 r.ents.length c5 (cells r.ents)) (h6 : Row w a6 r.proof.length c6 (ints r.proof)) (d5 : ∀ p, 0 < r.ents.length → a5 = some p → ¬ foot b v1 v2 p.block) :
    Calls Tryz.prog 131 #[.pointer (some ⟨b, 0, none⟩), rv r a5 c5 a6 c6, wv m.want] w fun e w' => e = .returned (errv (hearE key m r)) ∧ Turned w B b key v1 v2 (hearM key m r) w' := by
  obtain ⟨what, ⟨hs, hrt, ht, hsg⟩, ents, prf⟩ := r
  obtain ⟨x, HWx⟩ : ∃ x, Hid (m.want = x) := ⟨_, rfl⟩
  rw [HWx.out] at hw ⊢
  obtain ⟨ww, wf, wt⟩ := x
  simp only at hw hz h5 h6 d5
  obtain rfl : what = ww := hw
  simp only [rv, wv]
  have HE0 : Hid (hearE key m ⟨what, ⟨hs, hrt, ht, hsg⟩, ents, prf⟩ = if what = 1 then headE key m ⟨hs, hrt, ht, hsg⟩ else if what = 2 then someE m ents else proofE m prf) := by
    show _ = _
    unfold hearE
    rw [if_neg hz, if_neg (by rw [HWx.out]; simp), HWx.out]
  have HM0 : Hid (hearM key m ⟨what, ⟨hs, hrt, ht, hsg⟩, ents, prf⟩ = if what = 1 then headM key m ⟨hs, hrt, ht, hsg⟩ else if what = 2 then someM m ents else proofM m prf) := by
    show _ = _
    unfold hearM
    rw [if_neg hz, if_neg (by rw [HWx.out]; simp), HWx.out]
  have aW := aggW
  have zW := sizeW
  have aR := aggR
  have zR := sizeR
  have aH := aggH
  have zH := sizeH
  have HL : Hid (Lay w B b key m v1 v2) := h
  have HO : Hid (Ok key m) := ho
  have HTb : Hid (Tabs w) := hT
  have HF : Hid (RFine ⟨what, ⟨hs, hrt, ht, hsg⟩, ents, prf⟩) := hr
  have H5 : Hid (Wide 2 w a5 ents.length c5 (cells ents)) := h5
  have H6 : Hid (Row w a6 prf.length c6 (ints prf)) := h6
  have HD : Hid (∀ p, 0 < ents.length → a5 = some p → ¬ foot b v1 v2 p.block) := d5
  clear h hT ho hr h5 h6 d5 hz
  go_enter Tryz.func131, Tryz.ntmps131
  go_upto_region 1 with fail
  have HB0 : Hid (Below w.heap.size w ((w.alloc (.cells #[.int .i64 what, .int .i64 hs, .int .i64 hrt, .int .i64 ht, .int .i64 hsg, .slice a5 ents.length c5, .slice a6 prf.length c6] 122)).alloc (.cells #[.int .i64 what, .int .i64 wf, .int .i64 wt] 124))) := ((Below.refl _ _).alloc (Nat.le_refl _) _).alloc (by simp) _
  have HR0 : Hid (((w.alloc (.cells #[.int .i64 what, .int .i64 hs, .int .i64 hrt, .int .i64 ht, .int .i64 hsg, .slice a5 ents.length c5, .slice a6 prf.length c6] 122)).alloc (.cells #[.int .i64 what, .int .i64 wf, .int .i64 wt] 124)).rowIs w.heap.size 122 7 (cell7 what hs hrt ht hsg (.slice a5 ents.length c5) (.slice a6 prf.length c6))) := by
    have h1 : (w.alloc (.cells #[.int .i64 what, .int .i64 hs, .int .i64 hrt, .int .i64 ht, .int .i64 hsg, .slice a5 ents.length c5, .slice a6 prf.length c6] 122)).rowIs w.heap.size 122 7 (cell7 what hs hrt ht hsg (.slice a5 ents.length c5) (.slice a6 prf.length c6)) := World.rowIs_alloc w #[.int .i64 what, .int .i64 hs, .int .i64 hrt, .int .i64 ht, .int .i64 hsg, .slice a5 ents.length c5, .slice a6 prf.length c6] _ _ (by intro i hi; match i, hi with | 0, _ => rfl | 1, _ => rfl | 2, _ => rfl | 3, _ => rfl | 4, _ => rfl | 5, _ => rfl | 6, _ => rfl)
    exact h1.of_block (((Below.refl _ _).alloc (Nat.le_refl _) _).block _ h1.lt)
  have HW0 : Hid (((w.alloc (.cells #[.int .i64 what, .int .i64 hs, .int .i64 hrt, .int .i64 ht, .int .i64 hsg, .slice a5 ents.length c5, .slice a6 prf.length c6] 122)).alloc (.cells #[.int .i64 what, .int .i64 wf, .int .i64 wt] 124)).rowIs (w.heap.size + 1) 124 3 (fun i => if i = 0 then .int .i64 what else if i = 1 then .int .i64 wf else .int .i64 wt)) := by
    have h1 := World.rowIs_alloc (w.alloc (.cells #[.int .i64 what, .int .i64 hs, .int .i64 hrt, .int .i64 ht, .int .i64 hsg, .slice a5 ents.length c5, .slice a6 prf.length c6] 122)) #[.int .i64 what, .int .i64 wf, .int .i64 wt] 124 (fun i => if i = 0 then .int .i64 what else if i = 1 then .int .i64 wf else .int .i64 wt) (by intro i hi; match i, hi with | 0, _ => rfl | 1, _ => rfl | 2, _ => rfl)
    show World.rowIs _ _ _ _ _
    simpa using h1
  generalize (w.alloc (.cells #[.int .i64 what, .int .i64 hs, .int .i64 hrt, .int .i64 ht, .int .i64 hsg, .slice a5 ents.length c5, .slice a6 prf.length c6] 122)).alloc (.cells #[.int .i64 what, .int .i64 wf, .int .i64 wt] 124) = w0 at HB0 HR0 HW0 ⊢
  obtain ⟨pr, HPR⟩ : ∃ pr, Hid (w.heap.size = pr) := ⟨_, rfl⟩
  rw [show w.heap.size = pr from HPR.out] at HR0 HW0 ⊢
  obtain ⟨pw, HPW⟩ : ∃ pw, Hid (pr + 1 = pw) := ⟨_, rfl⟩
  rw [show pr + 1 = pw from HPW.out] at HW0 ⊢
  have k1 : w0.cell? ⟨pr, 1, none⟩ = some (.int .i64 hs) := HR0.out.cell (i := 1) (by omega)
  have k2 : w0.cell? ⟨pr, 2, none⟩ = some (.int .i64 hrt) := HR0.out.cell (i := 2) (by omega)
  have k3 : w0.cell? ⟨pr, 3, none⟩ = some (.int .i64 ht) := HR0.out.cell (i := 3) (by omega)
  have k4 : w0.cell? ⟨pr, 4, none⟩ = some (.int .i64 hsg) := HR0.out.cell (i := 4) (by omega)
  have k5 : w0.cell? ⟨pr, 5, none⟩ = some (.slice a5 ents.length c5) := HR0.out.cell (i := 5) (by omega)
  have k6 : w0.cell? ⟨pr, 6, none⟩ = some (.slice a6 prf.length c6) := HR0.out.cell (i := 6) (by omega)
  have q0 : w0.cell? ⟨pw, 0, none⟩ = some (.int .i64 what) := HW0.out.cell (i := 0) (by omega)
  have q1 : w0.cell? ⟨pw, 1, none⟩ = some (.int .i64 wf) := HW0.out.cell (i := 1) (by omega)
  have q2 : w0.cell? ⟨pw, 2, none⟩ = some (.int .i64 wt) := HW0.out.cell (i := 2) (by omega)
  have L0 := HL.out.below HB0.out
  have T0 := HTb.out.below HB0.out
  by_cases h1 : what = 1
  · -- a head
    have HEM : Hid (hearE key m ⟨what, ⟨hs, hrt, ht, hsg⟩, ents, prf⟩ = headE key m ⟨hs, hrt, ht, hsg⟩ ∧ hearM key m ⟨what, ⟨hs, hrt, ht, hsg⟩, ents, prf⟩ = headM key m ⟨hs, hrt, ht, hsg⟩) := ⟨by rw [HE0.out, if_pos h1], by rw [HM0.out, if_pos h1]⟩
    have e2 : (what == 1) = true := by rw [beq_iff_eq]; exact h1
    have cH := WalkMiTake.head_any L0 T0 HO.out ⟨hs, hrt, ht, hsg⟩
    unfold hv at cH
    simp only at cH
    clear L0 T0 h1 HE0 HM0
    go_wp2_with fail
    refine cH.mono ?_
    rintro e w1 ⟨rfl, hT1⟩
    have HT1 : Hid (Turned w B b key v1 v2 (headM key m ⟨hs, hrt, ht, hsg⟩) w1) := hT1.from HB0.out
    clear cH hT1
    go_wp2_with fail
    go_ret
    exact ⟨by rw [HEM.out.1]; rfl, by rw [HEM.out.2]; exact HT1.out⟩
  have e2 : (what == 1) = false := by rw [beq_eq_false_iff_ne]; exact h1
  by_cases h2 : what = 2
  · -- entries
    have HEM : Hid (hearE key m ⟨what, ⟨hs, hrt, ht, hsg⟩, ents, prf⟩ = someE m ents ∧ hearM key m ⟨what, ⟨hs, hrt, ht, hsg⟩, ents, prf⟩ = someM m ents) := ⟨by rw [HE0.out, if_neg h1, if_pos h2], by rw [HM0.out, if_neg h1, if_pos h2]⟩
    have e3 : (what == 2) = true := by rw [beq_iff_eq]; exact h2
    have hw2 : m.want.what = 2 := by rw [HWx.out]; exact h2
    have hM : wt - wf = m.want.to_ - m.want.fr := by rw [HWx.out]
    have hsm := WalkMiEnts.want_small HO.out hw2
    have hwt := Mirrors.want_two hw2
    have hb9 : 0 ≤ wt - wf ∧ wt - wf ≤ 16 := by
      have h3 := (HO.out.some hwt.1).2.2.1
      rw [hM, hwt.2.2.1, hwt.2.2.2]
      split <;> omega
    have w9 : IntKind.i64.wrap (wt - wf) = wt - wf := by rw [IntKind.wrap_i64]; omega
    have cE := WalkMiEnts.ents_any L0 HO.out hw2 ents a5 c5 (H5.out.below HB0.out) HF.out.data HF.out.ents HD.out (wt - wf) hM
    have HBd : Hid (someE m ents ≠ 0 → someM m ents = m.forget) := fun q => some_bad q
    clear L0 T0 h1 h2 HE0 HM0 hsm hwt hw2 hM hb9
    go_wp2_with fail
    refine cE.mono ?_
    rintro e w1 ⟨rfl, m', hT, hg, hbd⟩
    clear cE k1 k2 k3 k4 k5 k6 q0 q1 q2 w9
    obtain ⟨x1, x2, hl, hk, hf⟩ := hT
    by_cases hE : someE m ents = 0
    · have HFIN : Hid (hearE key m ⟨what, ⟨hs, hrt, ht, hsg⟩, ents, prf⟩ = 0 ∧ Turned w B b key v1 v2 (hearM key m ⟨what, ⟨hs, hrt, ht, hsg⟩, ents, prf⟩) w1) := ⟨by rw [HEM.out.1, hE], by rw [HEM.out.2, ← hg hE]; exact Turned.from HB0.out ⟨x1, x2, hl, hk, hf⟩⟩
      rw [hE, errv0]
      clear hE hg hbd hl hk hf HBd HEM
      go_wp2_with fail
      go_ret
      exact ⟨by rw [HFIN.out.1]; rfl, HFIN.out.2⟩
    · have cF := WalkMiOne.forget_any hl
      have HFIN : Hid (hearE key m ⟨what, ⟨hs, hrt, ht, hsg⟩, ents, prf⟩ = someE m ents ∧ hearM key m ⟨what, ⟨hs, hrt, ht, hsg⟩, ents, prf⟩ = m'.forget) := ⟨HEM.out.1, by rw [HEM.out.2, HBd.out hE, hbd hE]⟩
      have HN : Hid (errv (someE m ents) = .iface 99 (.int .i64 (someE m ents : Nat))) := errv_pos _ hE
      have HKf : Hid (Kept (foot b v1 v2) w0 w1 ∧ ∀ k, foot b x1 x2 k → foot b v1 v2 k ∨ w0.heap.size ≤ k) := ⟨hk, hf⟩
      rw [HN.out]
      clear hE hg hbd hl hk hf HBd HEM
      generalize someE m ents = E at HFIN HN ⊢
      go_wp2_with fail
      refine cF.mono ?_
      rintro e w2 ⟨rfl, l2, k2⟩
      have HT2 : Hid (Turned w B b key v1 v2 m'.forget w2) := Turned.from HB0.out (Turned.forget HKf.out.1 HKf.out.2 l2 k2)
      clear cF l2 k2
      go_wp2_with fail
      go_ret
      exact ⟨by rw [HFIN.out.1, HN.out]; rfl, by rw [HFIN.out.2]; exact HT2.out⟩
  · -- a proof
    have e3 : (what == 2) = false := by rw [beq_eq_false_iff_ne]; exact h2
    have HEM : Hid (hearE key m ⟨what, ⟨hs, hrt, ht, hsg⟩, ents, prf⟩ = proofE m prf ∧ hearM key m ⟨what, ⟨hs, hrt, ht, hsg⟩, ents, prf⟩ = proofM m prf) := ⟨by rw [HE0.out, if_neg h1, if_neg h2], by rw [HM0.out, if_neg h1, if_neg h2]⟩
    obtain ⟨_, hn, hh⟩ := Mirrors.want_else (m := m) (by rw [HWx.out]; exact h1) (by rw [HWx.out]; exact h2)
    have cP := WalkMiTake.proof_any L0 HO.out hn hh prf a6 c6 (H6.out.below HB0.out) HF.out.proof
    have HGd : Hid (proofE m prf = 0 → proofG m prf = proofM m prf) := fun q => proof_good q
    have HBd : Hid (proofE m prf ≠ 0 → proofM m prf = m.forget ∧ proofG m prf = m) := fun q => proof_bad q
    clear L0 T0 h1 h2 HE0 HM0 hn hh
    go_wp2_with fail
    refine cP.mono ?_
    rintro e w1 ⟨rfl, hT⟩
    clear cP k1 k2 k3 k4 k5 k6 q0 q1 q2
    obtain ⟨x1, x2, hl, hk, hf⟩ := hT
    by_cases hE : proofE m prf = 0
    · have HFIN : Hid (hearE key m ⟨what, ⟨hs, hrt, ht, hsg⟩, ents, prf⟩ = 0 ∧ Turned w B b key v1 v2 (hearM key m ⟨what, ⟨hs, hrt, ht, hsg⟩, ents, prf⟩) w1) := ⟨by rw [HEM.out.1, hE], by rw [HEM.out.2, ← HGd.out hE]; exact Turned.from HB0.out ⟨x1, x2, hl, hk, hf⟩⟩
      rw [hE, errv0]
      clear hE hl hk hf HBd HGd HEM
      go_wp2_with fail
      go_ret
      exact ⟨by rw [HFIN.out.1]; rfl, HFIN.out.2⟩
    · have cF := WalkMiOne.forget_any hl
      rw [(HBd.out hE).2] at cF
      have HFIN : Hid (hearE key m ⟨what, ⟨hs, hrt, ht, hsg⟩, ents, prf⟩ = proofE m prf ∧ hearM key m ⟨what, ⟨hs, hrt, ht, hsg⟩, ents, prf⟩ = m.forget) := ⟨HEM.out.1, by rw [HEM.out.2, (HBd.out hE).1]⟩
      have HN : Hid (errv (proofE m prf) = .iface 99 (.int .i64 (proofE m prf : Nat))) := errv_pos _ hE
      have HKf : Hid (Kept (foot b v1 v2) w0 w1 ∧ ∀ k, foot b x1 x2 k → foot b v1 v2 k ∨ w0.heap.size ≤ k) := ⟨hk, hf⟩
      rw [HN.out]
      clear hE hl hk hf HBd HGd HEM
      generalize proofE m prf = E at HFIN HN ⊢
      go_wp2_with fail
      refine cF.mono ?_
      rintro e w2 ⟨rfl, l2, k2⟩
      have HT2 : Hid (Turned w B b key v1 v2 m.forget w2) := Turned.from HB0.out (Turned.forget HKf.out.1 HKf.out.2 l2 k2)
      clear cF l2 k2
      go_wp2_with fail
      go_ret
      exact ⟨by rw [HFIN.out.1, HN.out]; rfl, by rw [HFIN.out.2]; exact HT2.out⟩

set_option maxHeartbeats 8000000 in
set_option maxRecDepth 100000 in
theorem hear_any {w : World} {B b : Nat} {key : Int} {m : Mir} {v1 v2 : Value} (h : Lay w B b key m v1 v2) (hT : Tabs w) (ho : Ok key m) (r : Reply) (hr : RFine r) (a5 : Option Addr) (c5 : Nat) (a6 : Option Addr) (c6 : Nat)
    (h5 : Wide 2 w a5 r.ents.length c5 (cells r.ents)) (h6 : Row w a6 r.proof.length c6 (ints r.proof)) (d5 : ∀ p, 0 < r.ents.length → a5 = some p → ¬ foot b v1 v2 p.block) :
    Calls Tryz.prog 81 #[.pointer (some ⟨b, 0, none⟩), rv r a5 c5 a6 c6] w fun e w' => e = .returned (errv (hearE key m r)) ∧ Turned w B b key v1 v2 (hearM key m r) w' := by
  obtain ⟨what, ⟨hs, hrt, ht, hsg⟩, ents, prf⟩ := r
  obtain ⟨x, HWx⟩ : ∃ x, Hid (m.want = x) := ⟨_, rfl⟩
  obtain ⟨ww, wf, wt⟩ := x
  simp only at h5 h6 d5
  have aW := aggW
  have zW := sizeW
  have aR := aggR
  have zR := sizeR
  have HL : Hid (Lay w B b key m v1 v2) := h
  have HO : Hid (Ok key m) := ho
  have HCT : Hid (∀ w', Below w.heap.size w w' → what = ww → what ≠ 0 → Calls Tryz.prog 131 #[.pointer (some ⟨b, 0, none⟩), .agg #[.int .i64 what, .int .i64 hs, .int .i64 hrt, .int .i64 ht, .int .i64 hsg, .slice a5 ents.length c5, .slice a6 prf.length c6], .agg #[.int .i64 ww, .int .i64 wf, .int .i64 wt]] w' fun e w'' => e = .returned (errv (hearE key m ⟨what, ⟨hs, hrt, ht, hsg⟩, ents, prf⟩)) ∧ Turned w B b key v1 v2 (hearM key m ⟨what, ⟨hs, hrt, ht, hsg⟩, ents, prf⟩) w'') := fun w' b' hq hz => by
    have hc := take_any (h.below b') (hT.below b') ho ⟨what, ⟨hs, hrt, ht, hsg⟩, ents, prf⟩ hr (by rw [HWx.out]; exact hq) hz a5 c5 a6 c6 (h5.below b') (h6.below b') d5
    rw [HWx.out] at hc
    simp only [rv, wv] at hc
    refine hc.mono ?_
    rintro e w'' ⟨rfl, hq2⟩
    exact ⟨rfl, hq2.from b'⟩
  have HCW : Hid (∀ w', Below w.heap.size w w' → Calls Tryz.prog 82 #[.pointer (some ⟨b, 0, none⟩)] w' fun e w'' => e = .returned (.agg #[.int .i64 ww, .int .i64 wf, .int .i64 wt]) ∧ Below w'.heap.size w' w'') := fun w' b' => by
    have hc := WalkMiOne.want_any (h.below b') ho
    rw [HWx.out] at hc
    exact hc
  have HE0 : Hid (hearE key m ⟨what, ⟨hs, hrt, ht, hsg⟩, ents, prf⟩ = if what = 0 then 0 else if what ≠ ww then 3 else hearE key m ⟨what, ⟨hs, hrt, ht, hsg⟩, ents, prf⟩) := by
    show _ = _
    by_cases hz : what = 0
    · rw [if_pos hz]; unfold hearE; rw [if_pos hz]
    · rw [if_neg hz]
      by_cases hne : what ≠ ww
      · rw [if_pos hne]; unfold hearE; rw [if_neg hz, if_pos (by rw [HWx.out]; exact hne)]
      · rw [if_neg hne]
  have HM0 : Hid (what = 0 ∨ what ≠ ww → hearM key m ⟨what, ⟨hs, hrt, ht, hsg⟩, ents, prf⟩ = m) := fun q => by
    unfold hearM
    by_cases hz : what = 0
    · rw [if_pos hz]
    · rw [if_neg hz, if_pos (by rw [HWx.out]; exact q.resolve_left hz)]
  simp only [rv]
  clear h hT ho hr h5 h6 d5
  go_enter Tryz.func81, Tryz.ntmps81
  go_upto_region 1 with fail
  have HB0 : Hid (Below w.heap.size w (w.alloc (.cells #[.int .i64 what, .int .i64 hs, .int .i64 hrt, .int .i64 ht, .int .i64 hsg, .slice a5 ents.length c5, .slice a6 prf.length c6] 122))) := (Below.refl _ _).alloc (Nat.le_refl _) _
  have HR0 : Hid ((w.alloc (.cells #[.int .i64 what, .int .i64 hs, .int .i64 hrt, .int .i64 ht, .int .i64 hsg, .slice a5 ents.length c5, .slice a6 prf.length c6] 122)).rowIs w.heap.size 122 7 (cell7 what hs hrt ht hsg (.slice a5 ents.length c5) (.slice a6 prf.length c6))) := World.rowIs_alloc w #[.int .i64 what, .int .i64 hs, .int .i64 hrt, .int .i64 ht, .int .i64 hsg, .slice a5 ents.length c5, .slice a6 prf.length c6] _ _ (by intro i hi; match i, hi with | 0, _ => rfl | 1, _ => rfl | 2, _ => rfl | 3, _ => rfl | 4, _ => rfl | 5, _ => rfl | 6, _ => rfl)
  generalize w.alloc (.cells #[.int .i64 what, .int .i64 hs, .int .i64 hrt, .int .i64 ht, .int .i64 hsg, .slice a5 ents.length c5, .slice a6 prf.length c6] 122) = w0 at HB0 HR0 ⊢
  obtain ⟨pr, HPR⟩ : ∃ pr, Hid (w.heap.size = pr) := ⟨_, rfl⟩
  rw [show w.heap.size = pr from HPR.out] at HR0 ⊢
  have cW := HCW.out _ HB0.out
  go_wp2_with fail
  refine cW.mono ?_
  rintro e w1 ⟨rfl, bw1⟩
  clear cW HCW
  go_upto_region 2 with fail
  have HB1 : Hid (Below w0.heap.size w0 (w1.alloc (.cells #[.int .i64 ww, .int .i64 wf, .int .i64 wt] 124))) := bw1.alloc bw1.size _
  have HW1 : Hid ((w1.alloc (.cells #[.int .i64 ww, .int .i64 wf, .int .i64 wt] 124)).rowIs w1.heap.size 124 3 (fun i => if i = 0 then .int .i64 ww else if i = 1 then .int .i64 wf else .int .i64 wt)) := World.rowIs_alloc w1 #[.int .i64 ww, .int .i64 wf, .int .i64 wt] _ _ (by intro i hi; match i, hi with | 0, _ => rfl | 1, _ => rfl | 2, _ => rfl)
  clear bw1
  generalize w1.alloc (.cells #[.int .i64 ww, .int .i64 wf, .int .i64 wt] 124) = w2 at HB1 HW1 ⊢
  generalize w1.heap.size = pw at HW1 ⊢
  have HB2 : Hid (Below w.heap.size w w2) := bt HB0.out HB1.out
  have hR2 := HR0.out.of_block (HB1.out.block _ HR0.out.lt)
  have k0 : w2.cell? ⟨pr, 0, none⟩ = some (.int .i64 what) := hR2.cell (i := 0) (by omega)
  have k1 : w2.cell? ⟨pr, 1, none⟩ = some (.int .i64 hs) := hR2.cell (i := 1) (by omega)
  have k2 : w2.cell? ⟨pr, 2, none⟩ = some (.int .i64 hrt) := hR2.cell (i := 2) (by omega)
  have k3 : w2.cell? ⟨pr, 3, none⟩ = some (.int .i64 ht) := hR2.cell (i := 3) (by omega)
  have k4 : w2.cell? ⟨pr, 4, none⟩ = some (.int .i64 hsg) := hR2.cell (i := 4) (by omega)
  have k5 : w2.cell? ⟨pr, 5, none⟩ = some (.slice a5 ents.length c5) := hR2.cell (i := 5) (by omega)
  have k6 : w2.cell? ⟨pr, 6, none⟩ = some (.slice a6 prf.length c6) := hR2.cell (i := 6) (by omega)
  have q0 : w2.cell? ⟨pw, 0, none⟩ = some (.int .i64 ww) := HW1.out.cell (i := 0) (by omega)
  have q1 : w2.cell? ⟨pw, 1, none⟩ = some (.int .i64 wf) := HW1.out.cell (i := 1) (by omega)
  have q2 : w2.cell? ⟨pw, 2, none⟩ = some (.int .i64 wt) := HW1.out.cell (i := 2) (by omega)
  have HSame : Hid (Turned w B b key v1 v2 m w2) := Turned.same HL.out HB2.out
  clear hR2
  by_cases hz : what = 0
  · have HFIN : Hid (hearE key m ⟨what, ⟨hs, hrt, ht, hsg⟩, ents, prf⟩ = 0 ∧ hearM key m ⟨what, ⟨hs, hrt, ht, hsg⟩, ents, prf⟩ = m) := ⟨by rw [HE0.out, if_pos hz], HM0.out (.inl hz)⟩
    have e0 : (what == 0) = true := by rw [beq_iff_eq]; exact hz
    clear hz HE0 HM0 HCT
    go_wp2_with fail
    go_ret
    exact ⟨by rw [HFIN.out.1]; rfl, by rw [HFIN.out.2]; exact HSame.out⟩
  have e0 : (what == 0) = false := by rw [beq_eq_false_iff_ne]; exact hz
  by_cases hq : what = ww
  · have e1 : (what == ww) = true := by rw [beq_iff_eq]; exact hq
    have cT := HCT.out w2 HB2.out hq hz
    clear hz hq HE0 HM0 HCT HSame
    go_wp2_with fail
    refine cT.mono ?_
    rintro e w3 ⟨rfl, hT3⟩
    have HT3 : Hid (Turned w B b key v1 v2 (hearM key m ⟨what, ⟨hs, hrt, ht, hsg⟩, ents, prf⟩) w3) := hT3
    clear cT hT3
    go_wp2_with fail
    go_ret
    exact ⟨rfl, HT3.out⟩
  · have e1 : (what == ww) = false := by rw [beq_eq_false_iff_ne]; exact hq
    have HFIN : Hid (hearE key m ⟨what, ⟨hs, hrt, ht, hsg⟩, ents, prf⟩ = 3 ∧ hearM key m ⟨what, ⟨hs, hrt, ht, hsg⟩, ents, prf⟩ = m) := ⟨by rw [HE0.out, if_neg hz, if_pos hq], HM0.out (.inr hq)⟩
    clear hz hq HE0 HM0 HCT
    go_wp2_with fail
    go_ret
    exact ⟨by rw [HFIN.out.1]; rfl, by rw [HFIN.out.2]; exact HSame.out⟩

end Go.Proofs.YticadkggaanbjaaGreatDoor.WalkMiHear

/-
  The program's mirror as an object whose inside is not looked at: what New, Hear, Want, Size, Root, Head and Entries do with it.
-/
namespace Go.Proofs.YticadkggaanbjaaGreatDoor.WalkMi
open Go.RowKit
open Keeps (Kept)
open Wides (Wide)
open Lists (Row ints)
open Heads (isKey)
open Mirrors (Mir Reply Ok hearE hearM rootE)
open ReplyRows (RFine)
open MirVals (rv wv)
open HeadVals (hv)
open EntRows (cells)
open Errs (errv)
open MirObj (Lay foot)

/-- what it asks of the library's own variables -/
abbrev Asks (w : World) : Prop := WalkHdLib.Tabs w
theorem Asks.below {w w' : World} (h : Asks w) (b : Below w.heap.size w w') : Asks w' := WalkHdLib.Tabs.below h b
/-- it lies in block b, its blocks are F -/
def Mi (w : World) (B b : Nat) (F : Nat → Prop) (key : Int) (m : Mir) : Prop := ∃ v1 v2, Lay w B b key m v1 v2 ∧ ∀ k, F k ↔ foot b v1 v2 k
theorem Mi.foot {w : World} {B b : Nat} {F : Nat → Prop} {key : Int} {m : Mir} (h : Mi w B b F key m) : ∀ k, F k → B ≤ k ∧ k < w.heap.size := by
  obtain ⟨v1, v2, h1, h2⟩ := h
  exact fun k hk => h1.foot_lt k ((h2 k).1 hk)
theorem Mi.kept {S : Nat → Prop} {w w' : World} {B b : Nat} {F : Nat → Prop} {key : Int} {m : Mir} (h : Mi w B b F key m) (k : Kept S w w') (hS : ∀ i, F i → ¬ S i) : Mi w' B b F key m := by
  obtain ⟨v1, v2, h1, h2⟩ := h
  exact ⟨v1, v2, h1.kept k fun i hi => hS i ((h2 i).2 hi), h2⟩
theorem new_any (key : Int) (w : World) (B : Nat) (hB : B ≤ w.heap.size) (hA : Asks w) : Calls Tryz.prog 20 #[.int .i64 key] w fun e w' => ∃ v, e = .returned (.tuple #[v, errv (if isKey key = true then 0 else 1)]) ∧ (isKey key = true → ∃ b F, v = .pointer (some ⟨b, 0, none⟩) ∧ Mi w' B b F key Mirrors.start ∧ ∀ k, F k → w.heap.size ≤ k) ∧ Below w.heap.size w w' := by
  refine (WalkMiOne.new_any key w B hB hA).mono ?_
  rintro e w' ⟨v, rfl, hv, hb⟩
  refine ⟨v, rfl, fun hk => ?_, hb⟩
  obtain ⟨b, rfl, hl, h⟩ := hv hk
  refine ⟨b, MirObj.foot b (.slice none 0 0) (.slice none 0 0), rfl, ⟨_, _, h, fun _ => Iff.rfl⟩, ?_⟩
  rintro k (rfl | q | q)
  · exact hl
  · simp [Value.ownBlock] at q
  · simp [Value.ownBlock] at q
theorem hear_any {w : World} {B b : Nat} {F : Nat → Prop} {key : Int} {m : Mir} (h : Mi w B b F key m) (hA : Asks w) (ho : Ok key m) (r : Reply) (hr : RFine r) (a5 : Option Addr) (c5 : Nat) (a6 : Option Addr) (c6 : Nat) (h5 : Wide 2 w a5 r.ents.length c5 (cells r.ents)) (h6 : Row w a6 r.proof.length c6 (ints r.proof)) (d5 : ∀ p, 0 < r.ents.length → a5 = some p → ¬ F p.block) (_ : ∀ p, 0 < r.proof.length → a6 = some p → ¬ F p.block) :
    Calls Tryz.prog 81 #[.pointer (some ⟨b, 0, none⟩), rv r a5 c5 a6 c6] w fun e w' => e = .returned (errv (hearE key m r)) ∧ (∃ F', Mi w' B b F' key (hearM key m r) ∧ ∀ k, F' k → F k ∨ w.heap.size ≤ k) ∧ Kept F w w' := by
  obtain ⟨v1, v2, h1, h2⟩ := h
  refine (WalkMiHear.hear_any h1 hA ho r hr a5 c5 a6 c6 h5 h6 fun p h0 hp q => d5 p h0 hp ((h2 _).2 q)).mono ?_
  rintro e w' ⟨rfl, x1, x2, l, k, f⟩
  exact ⟨rfl, ⟨MirObj.foot b x1 x2, ⟨x1, x2, l, fun _ => Iff.rfl⟩, fun i hi => (f i hi).imp (h2 i).2 id⟩, k.mono fun i hi => (h2 i).2 hi⟩
theorem want_any {w : World} {B b : Nat} {F : Nat → Prop} {key : Int} {m : Mir} (h : Mi w B b F key m) (ho : Ok key m) : Calls Tryz.prog 82 #[.pointer (some ⟨b, 0, none⟩)] w fun e w' => e = .returned (wv m.want) ∧ Below w.heap.size w w' := by
  obtain ⟨v1, v2, h1, h2⟩ := h
  exact WalkMiOne.want_any h1 ho
theorem size_any {w : World} {B b : Nat} {F : Nat → Prop} {key : Int} {m : Mir} (h : Mi w B b F key m) : Calls Tryz.prog 83 #[.pointer (some ⟨b, 0, none⟩)] w fun e w' => e = .returned (.int .i64 (m.own.length : Int)) ∧ Below w.heap.size w w' := by
  obtain ⟨v1, v2, h1, h2⟩ := h
  exact WalkMiOne.size_any h1
theorem root_any {w : World} {B b : Nat} {F : Nat → Prop} {key : Int} {m : Mir} (h : Mi w B b F key m) (ho : Ok key m) : Calls Tryz.prog 176 #[.pointer (some ⟨b, 0, none⟩)] w fun e w' => e = .returned (.int .i64 (rootE m.own)) ∧ Below w.heap.size w w' := by
  obtain ⟨v1, v2, h1, h2⟩ := h
  exact WalkMiOne.root_any h1 (Entries.ents_of ho.few ho.own)
theorem head_any {w : World} {B b : Nat} {F : Nat → Prop} {key : Int} {m : Mir} (h : Mi w B b F key m) : Calls Tryz.prog 23 #[.pointer (some ⟨b, 0, none⟩)] w fun e w' => e = .returned (hv m.head) ∧ Below w.heap.size w w' := by
  obtain ⟨v1, v2, h1, h2⟩ := h
  exact WalkMiOne.head_any h1
theorem entries_any {w : World} {B b : Nat} {F : Nat → Prop} {key : Int} {m : Mir} (h : Mi w B b F key m) (ho : Ok key m) : Calls Tryz.prog 22 #[.pointer (some ⟨b, 0, none⟩)] w fun e w' => ∃ v, e = .returned v ∧ w'.ownsRow w.heap.size 38 2 v m.own.length (cells m.own) ∧ Below w.heap.size w w' := by
  obtain ⟨v1, v2, h1, h2⟩ := h
  exact WalkMiOne.entries_any h1 ho.few

end Go.Proofs.YticadkggaanbjaaGreatDoor.WalkMi

