/-
  What the program's mirror does but for Hear: New, Size, Root, Entries, Head, Want; and what these and Hear are made of: rootOf, ownCopy, forget.
-/
import Derived.Test.YtigbbhojgajkjaiGreatDoorMirObj
import Derived.Test.YtigbbhojgajkjaiGreatDoorMirVals
import Derived.Test.YtigbbhojgajkjaiGreatDoorWalkMiLists
import Derived.Test.YtigbbhojgajkjaiGreatDoorEntAll
import Derived.Test.YtigbbhojgajkjaiGreatDoorWalkCheck
import Derived.Test.YtigbbhojgajkjaiGreatDoorWalkHdSign
import Derived.BigRegion
import Derived.BigQuiet
import Derived.Deep.QuietTactic
import Derived.Deep.RegionHeld
import Derived.Deep.CutBlock
import Derived.Deep.DeepMust
import Derived.Deep.OwnRows
namespace Go.Proofs.YtigbbhojgajkjaiGreatDoor.WalkMiOne
open Go.RowKit
open MirVals (wv aggW sizeW)
open Lists (Row ints bt)
open Keeps (Kept owns_kept owns_base owns_row)
open Wides (Wide owns_wide)
open Heads (Head zero isKey)
open HeadVals (hv aggH sizeH)
open Entries (Entry entE entsE leafsOf)
open EntRows (cells cells_append)
open Errs (errv errv0 errv_pos)
open Mirrors (Mir Want rootE)
open MirObj (Lay fld foot put4)
open WalkHdLib (Tabs)

theorem leafs_valid {l : List Entry} : ∀ x ∈ leafsOf l, Nums.valid x = true := by
  intro x hx
  obtain ⟨e, _, rfl⟩ := List.mem_map.1 hx
  have := Sums.sum_bd (0 :: Entries.bytes e)
  exact Nums.valid_iff.2 ⟨this.1, this.2⟩
theorem leafs_fine {l : List Entry} (hf : entsE l = 0) : Trees.leafsE (leafsOf l) = 0 := by
  unfold Trees.leafsE
  rw [if_neg (by have := (Entries.ents_ok hf).1; simp only [leafsOf, List.length_map]; omega)]
  exact if_pos (List.all_eq_true.2 leafs_valid)

theorem rootOf_any (l : List Entry) (a : Option Addr) (n cap : Nat) (w : World) (hr : Wide 2 w a n cap (cells l)) (hf : entsE l = 0) :
    Calls Tryz.prog 140 #[.slice a n cap] w fun e w' => e = .returned (.int .i64 (rootE l)) ∧ Below w.heap.size w w' := by
  have hz : ∀ e ∈ l, e.2.size ≤ maxLen := fun e he => by
    have := (Entries.ent_ok ((Entries.ents_ok hf).2 e he)).2.2
    unfold maxLen
    omega
  have cL := WalkEnt.leafs_any l a n cap w hr hz
  have hV : Entries.leafsV l = leafsOf l := if_pos hf
  have hRV : Trees.rootV (leafsOf l) = rootE l := if_pos (leafs_fine hf)
  have hRE := leafs_fine hf
  rw [hf, hV] at cL
  clear hz hr hf hV
  go_enter Tryz.func140, Tryz.ntmps140
  go_wp2_with fail
  refine cL.mono ?_
  rintro e w1 ⟨v, rfl, o1, b1⟩
  obtain ⟨a1, c1, rfl, hr1, _⟩ := owns_row o1
  have cR := WalkCheck.root_any (leafsOf l) a1 _ c1 w1 hr1
  rw [hRV, hRE] at cR
  clear cL o1 hr1 hRV hRE
  go_wp2_with fail
  refine cR.mono ?_
  rintro e w2 ⟨rfl, b2⟩
  clear cR
  go_wp2_with fail
  go_ret
  exact ⟨rfl, bt b1 b2⟩

theorem size_any {w : World} {B b : Nat} {key : Int} {m : Mir} {v1 v2 : Value} (h : Lay w B b key m v1 v2) :
    Calls Tryz.prog 49 #[.pointer (some ⟨b, 0, none⟩)] w fun e w' => e = .returned (.int .i64 (m.own.length : Int)) ∧ Below w.heap.size w w' := by
  have c1 : w.cell? ⟨b, 1, none⟩ = some v1 := h.row.cell (i := 1) (by omega)
  obtain ⟨a, c, rfl, hw⟩ := owns_wide h.own
  clear h hw
  go_enter Tryz.func49, Tryz.ntmps49
  go_wp2_with fail
  go_ret
  exact ⟨rfl, Below.refl _ _⟩

theorem root_any {w : World} {B b : Nat} {key : Int} {m : Mir} {v1 v2 : Value} (h : Lay w B b key m v1 v2) (hf : entsE m.own = 0) :
    Calls Tryz.prog 126 #[.pointer (some ⟨b, 0, none⟩)] w fun e w' => e = .returned (.int .i64 (rootE m.own)) ∧ Below w.heap.size w w' := by
  have c1 : w.cell? ⟨b, 1, none⟩ = some v1 := h.row.cell (i := 1) (by omega)
  obtain ⟨a, c, rfl, hw⟩ := owns_wide h.own
  have cR := rootOf_any m.own a m.own.length c w hw hf
  clear h hw hf
  go_enter Tryz.func126, Tryz.ntmps126
  go_wp2_with fail
  refine cR.mono ?_
  rintro e w1 ⟨rfl, b1⟩
  clear cR
  go_wp2_with fail
  go_ret
  exact ⟨rfl, b1⟩

theorem entries_any {w : World} {B b : Nat} {key : Int} {m : Mir} {v1 v2 : Value} (h : Lay w B b key m v1 v2) (hl : m.own.length ≤ 200) :
    Calls Tryz.prog 22 #[.pointer (some ⟨b, 0, none⟩)] w fun e w' => ∃ v, e = .returned v ∧ w'.ownsRow w.heap.size 65 2 v m.own.length (cells m.own) ∧ Below w.heap.size w w' := by
  have c1 : w.cell? ⟨b, 1, none⟩ = some v1 := h.row.cell (i := 1) (by omega)
  obtain ⟨a, c, rfl, hw⟩ := owns_wide h.own
  have cR := WalkMiLists.clone_any m.own a m.own.length c w (by omega) hw
  clear h hw
  go_enter Tryz.func22, Tryz.ntmps22
  go_wp2_with fail
  refine cR.mono ?_
  rintro e w1 ⟨v, rfl, o1, b1⟩
  clear cR
  go_wp2_with fail
  go_ret
  exact ⟨v, rfl, o1, b1⟩

/-- a row of two cells, written out -/
theorem row_two {w : World} {g : Nat} {t : TypeId} {f : Nat → Value} (h : w.rowIs g t 2 f) : w.heap[g]? = some (.cells #[f 0, f 1] t (0, 0)) := by
  obtain ⟨c, hb, hn, hc⟩ := h
  have : c = #[f 0, f 1] := by
    apply Array.ext_getElem?
    intro i
    match i with
    | 0 => rw [hc 0 (by omega)]; rfl
    | 1 => rw [hc 1 (by omega)]; rfl
    | i + 2 => rw [Array.getElem?_eq_none (by omega), Array.getElem?_eq_none (by simp)]
  rw [hb, this]
theorem size_two : (Tryz.prog.info? 65).map (·.size) = some 2 := by kernel_rfl
theorem ret_copy {w : World} {g : Nat} {x y : Value} (tmps : Array Value) (hp : tmps.getD 2 undef = .pointer (some ⟨g, 0, none⟩)) (h : w.heap[g]? = some (.cells #[x, y] 65 (0, 0))) :
    (results Tryz.f128 tmps).run Tryz.prog w = .ok (.agg #[x, y]) w :=
  results_cell_row rfl tmps w g _ #[x, y] (0, 0) _ hp h Tryz.underlying65 rfl size_two

set_option maxHeartbeats 8000000 in
set_option maxRecDepth 100000 in
theorem ownCopy_any (t : Int) (d : ByteArray) (w : World) (hd : d.size ≤ 200) :
    Calls Tryz.prog 128 #[.agg #[.int .i64 t, .string d]] w fun e w' => e = .returned (.agg #[.int .i64 t, .string d]) ∧ Below w.heap.size w w' := by
  have aE := WalkEntOne.aggE
  have zE := WalkEntOne.sizeE
  have HX : Hid (∀ w1, Calls Tryz.prog 141 #[.string d] w1 fun e w' => e = .returned (.string d) ∧ Below w1.heap.size w1 w') := fun w1 => WalkEntOne.clone_any d w1 (by omega)
  clear hd
  go_enter Tryz.func128, Tryz.ntmps128
  go_upto_region 1 with fail
  have b0 : Below w.heap.size w ((w.alloc (.cells #[.int .i64 t, .string d] 65)).alloc (.cells #[.int .i64 0, .string ⟨#[]⟩] 65)) := ((Below.refl _ _).alloc (Nat.le_refl _) _).alloc (by simp) _
  have k0 : ((w.alloc (.cells #[.int .i64 t, .string d] 65)).alloc (.cells #[.int .i64 0, .string ⟨#[]⟩] 65)).cell? ⟨w.heap.size, 0, none⟩ = some (.int .i64 t) := by rw [World.cell?_alloc_past _ _ _ (by simp)]; simp
  have k1 : ((w.alloc (.cells #[.int .i64 t, .string d] 65)).alloc (.cells #[.int .i64 0, .string ⟨#[]⟩] 65)).cell? ⟨w.heap.size, 1, none⟩ = some (.string d) := by rw [World.cell?_alloc_past _ _ _ (by simp)]; simp
  have r0 : ((w.alloc (.cells #[.int .i64 t, .string d] 65)).alloc (.cells #[.int .i64 0, .string ⟨#[]⟩] 65)).rowIs (w.heap.size + 1) 65 2 (fun j => if j = 0 then .int .i64 0 else .string ⟨#[]⟩) := by
    have := World.rowIs_alloc (w.alloc (.cells #[.int .i64 t, .string d] 65)) #[.int .i64 0, .string ⟨#[]⟩] 65 (fun j => if j = 0 then .int .i64 0 else .string ⟨#[]⟩) (by intro i hi; match i, hi with | 0, _ => rfl | 1, _ => rfl)
    simpa using this
  generalize (w.alloc (.cells #[.int .i64 t, .string d] 65)).alloc (.cells #[.int .i64 0, .string ⟨#[]⟩] 65) = w1 at b0 k0 k1 r0 ⊢
  have HB0 : Hid (Below w.heap.size w w1) := b0
  have HC : Hid (∀ w', Below w1.heap.size w1 w' → (w'.cell? ⟨w.heap.size, 0, none⟩ = some (.int .i64 t) ∧ w'.cell? ⟨w.heap.size, 1, none⟩ = some (.string d)) ∧ w'.rowIs (w.heap.size + 1) 65 2 (fun j => if j = 0 then .int .i64 0 else .string ⟨#[]⟩)) := fun w' b => ⟨⟨Lists.cell_below b k0, Lists.cell_below b k1⟩, r0.of_block (b.block _ r0.lt)⟩
  have d0 : w1.drew.cell? ⟨w.heap.size, 0, none⟩ = some (.int .i64 t) := k0
  have d1 : w1.drew.cell? ⟨w.heap.size, 1, none⟩ = some (.string d) := k1
  clear k0 k1 b0 r0
  go_region_held (fun w' => w'.cell? ⟨w.heap.size, 0, none⟩ = some (.int .i64 t) ∧ w'.cell? ⟨w.heap.size, 1, none⟩ = some (.string d)) (go_keep)
    (first | (go_at_call 141; refine (HX.out _).mono ?_; rintro e w4 ⟨rfl, b4⟩; have HB4 : Hid (Below w1.heap.size w1 w4) := bt (Below.refl _ w1).drew b4; obtain ⟨⟨c0, c1⟩, HQ⟩ := HC.out _ HB4.out; have q0 := HQ.cell (i := 0) (by omega); have q1 := HQ.cell (i := 1) (by omega); have f0 := HQ.frozen 0; have f1 := HQ.frozen 1; clear b4 HQ))
  have HQ := (HC.out _ HB4.out).2
  have HR : Hid (((w4.setCell ⟨w.heap.size + 1, 0, none⟩ (.int .i64 t)).setCell ⟨w.heap.size + 1, 1, none⟩ (.string d)).heap[w.heap.size + 1]? = some (.cells #[.int .i64 t, .string d] 65 (0, 0))) := row_two ((HQ.set 0 (.int .i64 t)).set 1 (.string d))
  have HE : Hid (Below w.heap.size w ((w4.setCell ⟨w.heap.size + 1, 0, none⟩ (.int .i64 t)).setCell ⟨w.heap.size + 1, 1, none⟩ (.string d))) := ((bt HB0.out HB4.out).setCell (by simp) _).setCell (by simp) _
  go_wp2_with fail
  refine bodyPost_ret (ret_copy _ rfl HR.out) rfl ⟨rfl, HE.out⟩

set_option maxHeartbeats 1000000 in
theorem forget_any {w : World} {B b : Nat} {key : Int} {m : Mir} {v1 v2 : Value} (h : Lay w B b key m v1 v2) :
    Calls Tryz.prog 115 #[.pointer (some ⟨b, 0, none⟩)] w fun e w' => e = .returned (.tuple #[]) ∧ Lay w' B b key m.forget v1 (.slice none 0 0) ∧ Kept (fun k => k = b) w w' := by
  have FIN : Hid (Lay (put4 (w.setCell ⟨b, 2, none⟩ (.slice none 0 0)) b 3 zero) B b key m.forget v1 (.slice none 0 0) ∧ Kept (fun k => k = b) w (put4 (w.setCell ⟨b, 2, none⟩ (.slice none 0 0)) b 3 zero)) := ⟨h.forget, (MirObj.kept_set w b 2 _).trans (MirObj.kept_put4 _ b 3 zero) fun _ q => .inl q⟩
  have c2 : w.cell? ⟨b, 2, none⟩ = some v2 := h.row.cell (i := 2) (by omega)
  have f2 := h.row.frozen 2
  have aH := aggH
  have zH := sizeH
  have h2 := MirObj.row_waits h.row (.slice none 0 0)
  have HR : Hid ((w.setCell ⟨b, 2, none⟩ (.slice none 0 0)).rowIs b 84 11 (fld key v1 m.head m.next (.slice none 0 0))) := h2
  obtain ⟨a2, cc2, rfl, _⟩ := owns_wide h.waits
  clear h h2
  unfold put4 zero at FIN
  simp only [Nat.reduceAdd] at FIN
  go_enter Tryz.func115, Tryz.ntmps115
  have d3 : (w.setCell ⟨b, 2, none⟩ (.slice none 0 0)).cell? ⟨b, 3, none⟩ = some (.int .i64 m.next.size) := HR.out.cell (i := 3) (by omega)
  have d4 : (w.setCell ⟨b, 2, none⟩ (.slice none 0 0)).cell? ⟨b, 4, none⟩ = some (.int .i64 m.next.root) := HR.out.cell (i := 4) (by omega)
  have d5 : (w.setCell ⟨b, 2, none⟩ (.slice none 0 0)).cell? ⟨b, 5, none⟩ = some (.int .i64 m.next.time) := HR.out.cell (i := 5) (by omega)
  have d6 : (w.setCell ⟨b, 2, none⟩ (.slice none 0 0)).cell? ⟨b, 6, none⟩ = some (.int .i64 m.next.sign) := HR.out.cell (i := 6) (by omega)
  have e3 := HR.out.frozen 3
  have e4 := HR.out.frozen 4
  have e5 := HR.out.frozen 5
  have e6 := HR.out.frozen 6
  go_wp2_with fail
  go_end0
  exact ⟨rfl, FIN.out⟩

theorem size_four : (Tryz.prog.info? 24).map (·.size) = some 4 := by kernel_rfl
theorem row_four {w : World} {g : Nat} {t : TypeId} {f : Nat → Value} (h : w.rowIs g t 4 f) : w.heap[g]? = some (.cells #[f 0, f 1, f 2, f 3] t (0, 0)) := by
  obtain ⟨c, hb, hn, hc⟩ := h
  have : c = #[f 0, f 1, f 2, f 3] := by
    apply Array.ext_getElem?
    intro i
    match i with
    | 0 => rw [hc 0 (by omega)]; rfl
    | 1 => rw [hc 1 (by omega)]; rfl
    | 2 => rw [hc 2 (by omega)]; rfl
    | 3 => rw [hc 3 (by omega)]; rfl
    | i + 4 => rw [Array.getElem?_eq_none (by omega), Array.getElem?_eq_none (by simp)]
  rw [hb, this]
theorem ret_head {w : World} {g : Nat} {x y z u : Value} (tmps : Array Value) (hp : tmps.getD 2 undef = .pointer (some ⟨g, 0, none⟩)) (h : w.heap[g]? = some (.cells #[x, y, z, u] 24 (0, 0))) :
    (results Tryz.f23 tmps).run Tryz.prog w = .ok (.agg #[x, y, z, u]) w :=
  results_cell_row rfl tmps w g _ #[x, y, z, u] (0, 0) _ hp h Tryz.underlying24 rfl size_four
theorem head_any {w : World} {B b : Nat} {key : Int} {m : Mir} {v1 v2 : Value} (h : Lay w B b key m v1 v2) :
    Calls Tryz.prog 23 #[.pointer (some ⟨b, 0, none⟩)] w fun e w' => e = .returned (hv m.head) ∧ Below w.heap.size w w' := by
  have aH := aggH
  have zH := sizeH
  have c7 : w.cell? ⟨b, 7, none⟩ = some (.int .i64 m.head.size) := h.row.cell (i := 7) (by omega)
  have c8 : w.cell? ⟨b, 8, none⟩ = some (.int .i64 m.head.root) := h.row.cell (i := 8) (by omega)
  have c9 : w.cell? ⟨b, 9, none⟩ = some (.int .i64 m.head.time) := h.row.cell (i := 9) (by omega)
  have c10 : w.cell? ⟨b, 10, none⟩ = some (.int .i64 m.head.sign) := h.row.cell (i := 10) (by omega)
  have hb := h.row.lt
  clear h
  go_enter Tryz.func23, Tryz.ntmps23
  go_wp2_with fail
  refine bodyPost_ret (ret_head _ rfl (heap_alloc_new _ _)) rfl ⟨rfl, (Below.refl _ _).alloc (Nat.le_refl _) _⟩

theorem size_want : (Tryz.prog.info? 91).map (·.size) = some 3 := by kernel_rfl
theorem ret_want {w : World} {g : Nat} {x y z : Value} (tmps : Array Value) (hp : tmps.getD 2 undef = .pointer (some ⟨g, 0, none⟩)) (h : w.heap[g]? = some (.cells #[x, y, z] 91 (0, 0))) :
    (results Tryz.f48 tmps).run Tryz.prog w = .ok (.agg #[x, y, z]) w :=
  results_cell_row rfl tmps w g _ #[x, y, z] (0, 0) _ hp h Tryz.underlying91 rfl size_want
theorem row_three {w : World} {g : Nat} {t : TypeId} {f : Nat → Value} (h : w.rowIs g t 3 f) : w.heap[g]? = some (.cells #[f 0, f 1, f 2] t (0, 0)) := by
  obtain ⟨c, hb, hn, hc⟩ := h
  have : c = #[f 0, f 1, f 2] := by
    apply Array.ext_getElem?
    intro i
    match i with
    | 0 => rw [hc 0 (by omega)]; rfl
    | 1 => rw [hc 1 (by omega)]; rfl
    | 2 => rw [hc 2 (by omega)]; rfl
    | i + 3 => rw [Array.getElem?_eq_none (by omega), Array.getElem?_eq_none (by simp)]
  rw [hb, this]
theorem put_three {w : World} {g : Nat} {t : TypeId} {f : Nat → Value} (h : w.rowIs g t 3 f) (x y z : Value) : (((w.setCell ⟨g, 0, none⟩ x).setCell ⟨g, 1, none⟩ y).setCell ⟨g, 2, none⟩ z).heap[g]? = some (.cells #[x, y, z] t (0, 0)) := row_three (((h.set 0 x).set 1 y).set 2 z)
theorem few_waits {key : Int} {m : Mir} (ho : Mirrors.Ok key m) : m.waits.length ≤ 200 := by
  by_cases hz : m.next.size = 0
  · rw [(ho.none hz).2]
    simp
  · have h1 := (ho.some hz).2.2.1
    have h2 := (Mirrors.size_ok (ho.some hz).1).2
    have h3 : (m.has : Int) = ((m.own.length + m.waits.length : Nat) : Int) := rfl
    omega
set_option maxHeartbeats 4000000 in
theorem want_any {w : World} {B b : Nat} {key : Int} {m : Mir} {v1 v2 : Value} (h : Lay w B b key m v1 v2) (ho : Mirrors.Ok key m) :
    Calls Tryz.prog 48 #[.pointer (some ⟨b, 0, none⟩)] w fun e w' => e = .returned (wv m.want) ∧ Below w.heap.size w w' := by
  have aW := aggW
  have zW := sizeW
  have h2 := few_waits ho
  have h1 := ho.few
  have HLE : Hid (m.next.size ≠ 0 → (m.has : Int) ≤ m.next.size) := fun q => (ho.some q).2.2.1
  have c3 : w.cell? ⟨b, 3, none⟩ = some (.int .i64 m.next.size) := h.row.cell (i := 3) (by omega)
  have c1 : w.cell? ⟨b, 1, none⟩ = some v1 := h.row.cell (i := 1) (by omega)
  have c2 : w.cell? ⟨b, 2, none⟩ = some v2 := h.row.cell (i := 2) (by omega)
  obtain ⟨a1, k1, rfl, _⟩ := owns_wide h.own
  obtain ⟨a2, k2, rfl, _⟩ := owns_wide h.waits
  have hb := h.row.lt
  clear h ho
  have HH : Hid ((m.has : Int) = (m.own.length : Int) + (m.waits.length : Int)) := by show ((m.own.length + m.waits.length : Nat) : Int) = _; omega
  have HF : Hid (m.want = if m.next.size = 0 then ⟨1, 0, 0⟩ else if (m.has : Int) = m.next.size then ⟨3, m.own.length, m.has⟩ else ⟨2, m.has, if m.next.size < m.has + 16 then m.next.size else m.has + 16⟩) := rfl
  generalize m.own.length = O at *
  generalize m.waits.length = Q at *
  generalize m.next.size = Z at *
  generalize (m.has : Int) = H at *
  generalize m.want = W at *
  have e1 : (O : Int) + (Q : Int) = H := HH.out.symm
  have w1 : IntKind.i64.wrap H = H := by rw [IntKind.wrap_i64]; have := HH.out; omega
  go_enter Tryz.func48, Tryz.ntmps48
  go_upto_region 1 with fail
  have b0 : Below w.heap.size w (w.alloc (.cells #[.int .i64 0, .int .i64 0, .int .i64 0] 91)) := (Below.refl _ _).alloc (Nat.le_refl _) _
  have r0 : (w.alloc (.cells #[.int .i64 0, .int .i64 0, .int .i64 0] 91)).rowIs w.heap.size 91 3 (fun _ => .int .i64 0) := World.rowIs_alloc w #[.int .i64 0, .int .i64 0, .int .i64 0] _ _ (by intro i hi; match i, hi with | 0, _ => rfl | 1, _ => rfl | 2, _ => rfl)
  have q1 := Lists.cell_below b0 c1
  have q2 := Lists.cell_below b0 c2
  have q3 := Lists.cell_below b0 c3
  generalize w.alloc (.cells #[.int .i64 0, .int .i64 0, .int .i64 0] 91) = wa at b0 r0 q1 q2 q3 ⊢
  clear c1 c2 c3
  obtain ⟨g, hg⟩ : ∃ g, w.heap.size = g := ⟨_, rfl⟩
  rw [hg] at r0 ⊢
  go_quiet (fail)
  have b1 : Below w.heap.size w (wa.drewN nq) := b0.trans ⟨rfl, rfl, rfl, Nat.le_refl _, fun _ _ => rfl⟩
  have r1 : (wa.drewN nq).rowIs g 91 3 (fun _ => .int .i64 0) := r0
  have d1 : (wa.drewN nq).cell? ⟨b, 1, none⟩ = some (.slice a1 O k1) := q1
  have d3 : (wa.drewN nq).cell? ⟨b, 3, none⟩ = some (.int .i64 Z) := q3
  clear q1 q2 q3 r0 b0
  generalize wa.drewN nq = wb at b1 r1 d1 d3 ⊢
  have g0 := r1.cell (i := 0) (by omega)
  have g1 := r1.cell (i := 1) (by omega)
  have g2 := r1.cell (i := 2) (by omega)
  have f0 := r1.frozen 0
  have f1 := r1.frozen 1
  have f2 := r1.frozen 2
  have HR : Hid (wb.rowIs g 91 3 (fun _ => .int .i64 0)) := r1
  have HB : Hid (Below w.heap.size w wb) := b1
  have HG : Hid (w.heap.size = g) := hg
  have HD : Hid (wb.cell? ⟨b, 1, none⟩ = some (.slice a1 O k1) ∧ wb.cell? ⟨b, 3, none⟩ = some (.int .i64 Z)) := ⟨d1, d3⟩
  clear r1 b1 hg
  have hEnd : Hid (∀ x y z, Below w.heap.size w (((wb.setCell ⟨g, 0, none⟩ x).setCell ⟨g, 1, none⟩ y).setCell ⟨g, 2, none⟩ z)) := fun x y z => ((HB.out.setCell (by rw [HG.out]; exact Nat.le_refl _) _).setCell (by rw [HG.out]; exact Nat.le_refl _) _).setCell (by rw [HG.out]; exact Nat.le_refl _) _
  by_cases h0 : Z = 0
  · have HV : Hid (W = ⟨1, 0, 0⟩) := by show _ = _; rw [HF.out, if_pos h0]
    have e0 : (Z == 0) = true := by rw [beq_iff_eq]; exact h0
    clear h0 HF HLE
    go_wp2_with fail
    refine bodyPost_ret (ret_want _ rfl (put_three HR.out _ _ _)) rfl ⟨by rw [HV.out]; rfl, hEnd.out _ _ _⟩
  have e0 : (Z == 0) = false := by rw [beq_eq_false_iff_ne]; exact h0
  have hle := HLE.out h0
  by_cases hz : H < Z
  · have hne : H ≠ Z := by omega
    have HNE : Hid (H ≠ Z ∧ Z ≠ 0) := ⟨hne, h0⟩
    clear hne hle h0 HLE
    have w2 : IntKind.i64.wrap (H + 16) = H + 16 := by rw [IntKind.wrap_i64]; have := HH.out; omega
    have HV : Hid (W = ⟨2, H, min Z (H + 16)⟩) := by
      show _ = _
      rw [HF.out, if_neg HNE.out.2, if_neg HNE.out.1]
      congr 1
      split <;> omega
    clear HF
    go_wp2_with fail
    refine bodyPost_ret (ret_want _ rfl (put_three HR.out _ _ _)) rfl ⟨by rw [HV.out]; rfl, hEnd.out _ _ _⟩
  · have hq : H = Z := by omega
    have HV : Hid (W = ⟨3, (O : Int), Z⟩) := by show _ = _; rw [HF.out, if_neg h0, if_pos hq, hq]
    clear hq hle h0 HF HLE
    go_upto_region 6 with fail
    have z1 : wb.drew.cell? ⟨b, 1, none⟩ = some (.slice a1 O k1) := HD.out.1
    have z3 : wb.drew.cell? ⟨b, 3, none⟩ = some (.int .i64 Z) := HD.out.2
    go_region
    go_wp2_with fail
    refine bodyPost_ret (ret_want _ rfl (put_three HR.out _ _ _)) rfl ⟨by rw [HV.out]; rfl, (hEnd.out _ _ _).drew⟩

theorem signE_zero (key : Int) : Heads.signE zero key = if isKey key = true then 0 else 1 := by
  unfold Heads.signE
  have h : Heads.ok (Heads.blank zero) = true := by decide
  rw [h]
  simp
theorem start_lay (w : World) (B : Nat) (key : Int) (hB : B ≤ w.heap.size) : Lay (w.alloc (.cells #[.int .i64 key, .slice none 0 0, .slice none 0 0, .int .i64 0, .int .i64 0, .int .i64 0, .int .i64 0, .int .i64 0, .int .i64 0, .int .i64 0, .int .i64 0] 84)) B w.heap.size key Mirrors.start (.slice none 0 0) (.slice none 0 0) := by
  refine ⟨World.rowIs_alloc w _ _ _ (by intro i hi; match i, hi with | 0, _ | 1, _ | 2, _ | 3, _ | 4, _ | 5, _ | 6, _ | 7, _ | 8, _ | 9, _ | 10, _ => rfl | i + 11, h => simp at h; omega), World.ownsRow_nil _ _ _ _, World.ownsRow_nil _ _ _ _, hB, ?_, ?_, ?_⟩
  · simp [Value.ownBlock]
  · simp [Value.ownBlock]
  · intro k hk
    simp [Value.ownBlock]
theorem aggM (w : World) : (isAgg 84).run Tryz.prog w = .ok true w := by kernel_rfl
theorem sizeM (w : World) : (sizeOf 84).run Tryz.prog w = .ok 11 w := by kernel_rfl
set_option maxHeartbeats 1000000 in
theorem new_any (key : Int) (w : World) (B : Nat) (hB : B ≤ w.heap.size) (hT : Tabs w) : Calls Tryz.prog 19 #[.int .i64 key] w fun e w' => ∃ v, e = .returned (.tuple #[v, errv (if isKey key = true then 0 else 1)]) ∧ (isKey key = true → ∃ b, v = .pointer (some ⟨b, 0, none⟩) ∧ w.heap.size ≤ b ∧ Lay w' B b key Mirrors.start (.slice none 0 0) (.slice none 0 0)) ∧ Below w.heap.size w w' := by
  have aH := aggH
  have zH := sizeH
  have aM := aggM
  have zM := sizeM
  have cS := WalkHdSign.sign_any zero key w hT
  rw [signE_zero] at cS
  generalize Heads.signV zero key = x at cS
  obtain ⟨x0, x1, x2, x3⟩ := x
  unfold hv zero at cS
  simp only at cS
  clear hT
  by_cases hk : isKey key = true
  · rw [if_pos hk, errv0] at cS ⊢
    go_enter Tryz.func19, Tryz.ntmps19
    go_wp2_with fail
    refine cS.mono ?_
    rintro e w1 ⟨rfl, b1⟩
    clear cS
    go_wp2_with fail
    go_ret2
    refine ⟨.pointer (some ⟨w1.heap.size + 1, 0, none⟩), rfl, fun _ => ⟨w1.heap.size + 1, rfl, by have := b1.size; omega, ?_⟩, (b1.alloc b1.size _).alloc (by have := b1.size; simp; omega) _⟩
    have h := start_lay (w1.alloc (.cells #[.int .i64 x0, .int .i64 x1, .int .i64 x2, .int .i64 x3] 24)) B key (by have := b1.size; simp; omega)
    simpa using h
  · rw [if_neg hk] at cS ⊢
    go_enter Tryz.func19, Tryz.ntmps19
    go_wp2_with fail
    refine cS.mono ?_
    rintro e w1 ⟨rfl, b1⟩
    clear cS
    rw [errv_pos 1 (by omega)]
    go_wp2_with fail
    go_ret2
    refine ⟨_, rfl, fun q => absurd q hk, b1.alloc b1.size _⟩

end Go.Proofs.YtigbbhojgajkjaiGreatDoor.WalkMiOne
