/-
  What the document's own answer (package witref2) returns as the head of a log: LogHead.
-/
import Derived.Test.YticadkggaanbjaaGreatDoorMirrors
import Derived.Test.YticadkggaanbjaaGreatDoorRefTree
import Derived.Test.YticadkggaanbjaaGreatDoorEntRef
import Derived.Test.YticadkggaanbjaaGreatDoorHeadRows
import Derived.Test.YticadkggaanbjaaGreatDoorHeadRef
import Derived.Deep.MidRow
import Derived.Laws.ResultCell
import Derived.Test.YticadkggaanbjaaGreatDoorSePlain
import Derived.Test.YticadkggaanbjaaGreatDoorListRows
import Derived.Test.YticadkggaanbjaaGreatDoorTilePlain
import Derived.Deep.DeepMust
import Derived.Deep.CutBlock
namespace Go.Proofs.YticadkggaanbjaaGreatDoor.WalkLogRef
open Go.RowKit
open Lists (Row ints bt)
open Wides (Wide owns_wide)
open Heads (Head zero ok isKey signOf)
open HeadVals (hv aggH sizeH At)
open Entries (Entry entE entsE leafsOf)
open EntRows (cells)
open Mirrors (rootE)

/-- the head of a log, without its sign -/
def bare (l : List Entry) (now : Int) : Head := ⟨l.length, rootE l, now, 0⟩
def logE (l : List Entry) (key now : Int) : Nat := if entsE l = 0 then (if isKey key = true ∧ ok (bare l now) = true then 0 else 1) else entsE l
def logH (l : List Entry) (key now : Int) : Head := if logE l key now = 0 then ⟨l.length, rootE l, now, signOf (bare l now) key⟩ else zero

def four (a b c d : Int) : Nat → Value
  | 0 => .int .i64 a
  | 1 => .int .i64 b
  | 2 => .int .i64 c
  | _ => .int .i64 d
theorem ret_log {w : World} {g : Nat} {a b c d : Int} (tmps : Array Value) (hp : tmps.getD 6 undef = .pointer (some ⟨g, 0, none⟩)) (h : w.rowIs g 31 4 (four a b c d)) :
    (results Tryz.f10 tmps).run Tryz.prog w = .ok (.tuple #[hv ⟨a, b, c, d⟩, tmps.getD 7 undef]) w := by
  have hl := run_loadVar_mid (P := Tryz.prog) w g 0 31 [.int .i64 a, .int .i64 b, .int .i64 c, .int .i64 d] _ (fun j v hv => by
    match j, hv with
    | 0, hv => simp at hv; subst hv; simpa [four] using h.cell (i := 0) (by omega)
    | 1, hv => simp at hv; subst hv; simpa [four] using h.cell (i := 1) (by omega)
    | 2, hv => simp at hv; subst hv; simpa [four] using h.cell (i := 2) (by omega)
    | 3, hv => simp at hv; subst hv; simpa [four] using h.cell (i := 3) (by omega)) Tryz.underlying31 rfl (by kernel_rfl)
  rw [results_cell_tmp rfl, hp]
  simp [asAddr, hl, Result.andThen, hv]
theorem four_new (w : World) (a b c d : Int) : (w.alloc (.cells #[.int .i64 a, .int .i64 b, .int .i64 c, .int .i64 d] 31)).rowIs w.heap.size 31 4 (four a b c d) := World.rowIs_alloc w #[.int .i64 a, .int .i64 b, .int .i64 c, .int .i64 d] _ _ (by intro i hi; match i, hi with | 0, _ => rfl | 1, _ => rfl | 2, _ => rfl | 3, _ => rfl)
theorem four_put {w : World} {g : Nat} {f : Nat → Value} (h : w.rowIs g 31 4 f) (a b c d : Int) : ((((w.setCell ⟨g, 0, none⟩ (.int .i64 a)).setCell ⟨g, 1, none⟩ (.int .i64 b)).setCell ⟨g, 2, none⟩ (.int .i64 c)).setCell ⟨g, 3, none⟩ (.int .i64 d)).rowIs g 31 4 (four a b c d) := by
  refine ((((h.set 0 (.int .i64 a)).set 1 (.int .i64 b)).set 2 (.int .i64 c)).set 3 (.int .i64 d)).congr fun i hi => ?_
  match i, hi with
  | 0, _ => rfl
  | 1, _ => rfl
  | 2, _ => rfl
  | 3, _ => rfl

set_option maxHeartbeats 4000000 in
set_option maxRecDepth 100000 in
theorem log_any (l : List Entry) (a : Option Addr) (n cap : Nat) (key now : Int) (w : World) (hr : Wide 2 w a n cap (cells l)) (hz : ∀ e ∈ l, e.2.size ≤ maxLen) :
    Calls Tryz.prog 10 #[.slice a n cap, .int .i64 key, .int .i64 now] w fun e w' => e = .returned (.tuple #[hv (logH l key now), .int .i64 (logE l key now : Nat)]) ∧ Below w.heap.size w w' := by
  have aH := aggH
  have zH := sizeH
  have hln := EntRows.len_of hr
  have HR : Hid (Wide 2 w a n cap (cells l)) := hr
  have HZ : Hid (∀ e ∈ l, e.2.size ≤ maxLen) := hz
  clear hr hz
  go_enter Tryz.func10, Tryz.ntmps10
  go_upto_region 1 with fail
  have hb0 : Below w.heap.size w (w.alloc (.cells #[.int .i64 0, .int .i64 0, .int .i64 0, .int .i64 0] 31)) := (Below.refl _ _).alloc (Nat.le_refl _) _
  have HB0 : Hid (Below w.heap.size w (w.alloc (.cells #[.int .i64 0, .int .i64 0, .int .i64 0, .int .i64 0] 31))) := hb0
  have HQ0 : Hid ((w.alloc (.cells #[.int .i64 0, .int .i64 0, .int .i64 0, .int .i64 0] 31)).rowIs w.heap.size 31 4 (four 0 0 0 0)) := four_new w 0 0 0 0
  clear hb0
  generalize w.alloc (.cells #[.int .i64 0, .int .i64 0, .int .i64 0, .int .i64 0] 31) = w0 at HB0 HQ0 ⊢
  obtain ⟨g, HG⟩ : ∃ g, Hid (w.heap.size = g) := ⟨_, rfl⟩
  rw [show w.heap.size = g from HG.out]
  have HQ : Hid (w0.rowIs g 31 4 (four 0 0 0 0)) := by rw [← HG.out]; exact HQ0.out
  clear HQ0
  have cE := WalkEntriesRef.entries_any l a n cap w0 (HR.out.below HB0.out) HZ.out
  obtain ⟨T, HT⟩ : ∃ T, Hid (entsE l = T) := ⟨_, rfl⟩
  rw [HT.out] at cE
  go_wp2_with fail
  refine cE.mono ?_
  rintro e w1 ⟨rfl, b1⟩
  have HB1 : Hid (Below w.heap.size w w1) := bt HB0.out b1
  have HQ1 : Hid (w1.rowIs g 31 4 (four 0 0 0 0)) := HQ.out.of_block (b1.block _ HQ.out.lt)
  clear cE b1 HQ HB0 w0
  by_cases hT : T = 0
  rotate_left
  · have hE : logE l key now = T := by unfold logE; rw [HT.out, if_neg hT]
    have HEH : Hid (logE l key now = T ∧ logH l key now = ⟨0, 0, 0, 0⟩) := ⟨hE, by unfold logH; rw [if_neg (by rw [hE]; exact hT)]; rfl⟩
    have e1 : ((T : Int) != 0) = true := by simpa using hT
    have f0 := HQ1.out.frozen 0
    have f1 := HQ1.out.frozen 1
    have f2 := HQ1.out.frozen 2
    have f3 := HQ1.out.frozen 3
    have c0 : w1.cell? ⟨g, 0, none⟩ = some (.int .i64 0) := HQ1.out.cell (i := 0) (by omega)
    have c1 : w1.cell? ⟨g, 1, none⟩ = some (.int .i64 0) := HQ1.out.cell (i := 1) (by omega)
    have c2 : w1.cell? ⟨g, 2, none⟩ = some (.int .i64 0) := HQ1.out.cell (i := 2) (by omega)
    have c3 : w1.cell? ⟨g, 3, none⟩ = some (.int .i64 0) := HQ1.out.cell (i := 3) (by omega)
    clear hT hE
    go_wp2_with fail
    refine bodyPost_ret (ret_log _ rfl (four_put HQ1.out 0 0 0 0)) rfl ⟨by rw [HEH.out.1, HEH.out.2]; rfl, ?_⟩
    exact (((HB1.out.setCell (by rw [HG.out]; exact Nat.le_refl _) _).setCell (by rw [HG.out]; exact Nat.le_refl _) _).setCell (by rw [HG.out]; exact Nat.le_refl _) _).setCell (by rw [HG.out]; exact Nat.le_refl _) _
  have e1 : ((T : Int) != 0) = false := by rw [hT]; rfl
  have h0 : entsE l = 0 := by rw [HT.out]; exact hT
  have HLE : Hid (logE l key now = if isKey key = true ∧ ok (bare l now) = true then 0 else 1) := if_pos h0
  have cL := WalkUnpackRef.leafs_any l a n cap w1 (HR.out.below HB1.out) h0
  have h200 := (Entries.ents_ok h0).1
  clear hT h0 HT HZ HR
  go_wp2_with fail
  refine cL.mono ?_
  rintro e w2 ⟨v, rfl, o2, b2⟩
  have cR := WalkRootOf.root_of l v w2 _ o2 (by omega)
  clear cL o2
  go_wp2_with fail
  refine cR.mono ?_
  rintro e w3 ⟨rfl, b3⟩
  have hb3 := bt b2 b3
  have HB3 : Hid (Below w.heap.size w w3) := bt HB1.out hb3
  have HQ3 : Hid (w3.rowIs g 31 4 (four 0 0 0 0)) := HQ1.out.of_block (hb3.block _ HQ1.out.lt)
  clear cR b2 b3 hb3 HQ1 HB1
  go_upto_region 5 with fail
  have HQ4 : Hid ((w3.alloc (.cells #[.int .i64 (n : Int), .int .i64 (rootE l), .int .i64 now, .int .i64 0] 31)).rowIs g 31 4 (four 0 0 0 0)) := HQ3.out.alloc _
  have HP4 : Hid ((w3.alloc (.cells #[.int .i64 (n : Int), .int .i64 (rootE l), .int .i64 now, .int .i64 0] 31)).rowIs w3.heap.size 31 4 (four (n : Int) (rootE l) now 0)) := four_new w3 _ _ _ _
  have HB4 : Hid (Below w.heap.size w (w3.alloc (.cells #[.int .i64 (n : Int), .int .i64 (rootE l), .int .i64 now, .int .i64 0] 31))) := HB3.out.alloc HB3.out.size _
  have HGP : Hid (g < w3.heap.size) := HQ3.out.lt
  clear HQ3
  generalize w3.alloc (.cells #[.int .i64 (n : Int), .int .i64 (rootE l), .int .i64 now, .int .i64 0] 31) = w4 at HQ4 HP4 HB4 ⊢
  have HPB : Hid (w.heap.size ≤ w3.heap.size) := HB3.out.size
  generalize w3.heap.size = ph at HP4 HGP HPB ⊢
  clear HB3
  have hbare : bare l now = ⟨(n : Int), rootE l, now, 0⟩ := by unfold bare; rw [hln]
  have HBA : Hid (bare l now = ⟨(n : Int), rootE l, now, 0⟩) := hbare
  clear hbare
  go_wp2_with fail
  refine (WalkHeadRef.key_any key _).mono ?_
  rintro e w5 ⟨rfl, rfl⟩
  have HFA : Hid (¬ (isKey key = true ∧ ok (bare l now) = true) → ∀ w', Below w5.heap.size w5 w' → w'.rowIs g 31 4 (four 0 0 0 0) ∧ logE l key now = 1 ∧ logH l key now = ⟨0, 0, 0, 0⟩ ∧ Below w.heap.size w w') := by
    intro hc w' b'
    have h1 : logE l key now = 1 := by rw [HLE.out, if_neg hc]
    exact ⟨HQ4.out.of_block (b'.block _ HQ4.out.lt), h1, by unfold logH; rw [if_neg (by rw [h1]; decide)]; rfl, bt HB4.out b'⟩
  cases hk : isKey key with
  | false =>
    obtain ⟨q0, q1, q2, q3⟩ := HFA.out (by rw [hk]; simp) _ (Below.refl _ _)
    have f0 := q0.frozen 0
    have f1 := q0.frozen 1
    have f2 := q0.frozen 2
    have f3 := q0.frozen 3
    have c0 : w5.cell? ⟨g, 0, none⟩ = some (.int .i64 0) := q0.cell (i := 0) (by omega)
    have c1 : w5.cell? ⟨g, 1, none⟩ = some (.int .i64 0) := q0.cell (i := 1) (by omega)
    have c2 : w5.cell? ⟨g, 2, none⟩ = some (.int .i64 0) := q0.cell (i := 2) (by omega)
    have c3 : w5.cell? ⟨g, 3, none⟩ = some (.int .i64 0) := q0.cell (i := 3) (by omega)
    have HQ : Hid (w5.rowIs g 31 4 (four 0 0 0 0) ∧ logE l key now = 1 ∧ logH l key now = ⟨0, 0, 0, 0⟩ ∧ Below w.heap.size w w5) := ⟨q0, q1, q2, q3⟩
    clear q0 q1 q2 q3 hk
    go_wp2_with fail
    refine bodyPost_ret (ret_log _ rfl (four_put HQ.out.1 0 0 0 0)) rfl ⟨by rw [HQ.out.2.1, HQ.out.2.2.1]; rfl, ?_⟩
    exact (((HQ.out.2.2.2.setCell (by rw [HG.out]; exact Nat.le_refl _) _).setCell (by rw [HG.out]; exact Nat.le_refl _) _).setCell (by rw [HG.out]; exact Nat.le_refl _) _).setCell (by rw [HG.out]; exact Nat.le_refl _) _
  | true =>
    have p0 : w5.cell? ⟨ph, 0, none⟩ = some (.int .i64 (n : Int)) := HP4.out.cell (i := 0) (by omega)
    have p1 : w5.cell? ⟨ph, 1, none⟩ = some (.int .i64 (rootE l)) := HP4.out.cell (i := 1) (by omega)
    have p2 : w5.cell? ⟨ph, 2, none⟩ = some (.int .i64 now) := HP4.out.cell (i := 2) (by omega)
    have p3 : w5.cell? ⟨ph, 3, none⟩ = some (.int .i64 0) := HP4.out.cell (i := 3) (by omega)
    have cH := WalkHeadRef.head_any (bare l now) w5
    rw [HBA.out] at cH
    obtain ⟨E, HE⟩ : ∃ E, Hid (Heads.headE ⟨(n : Int), rootE l, now, 0⟩ = E) := ⟨_, rfl⟩
    rw [HE.out] at cH
    simp only [hv] at cH
    go_wp2_with fail
    refine cH.mono ?_
    rintro e w6 ⟨rfl, b6⟩
    clear cH
    by_cases hE : E = 0
    rotate_left
    · have hno : ok (bare l now) ≠ true := fun q => hE (by rw [← HE.out, ← HBA.out]; exact Heads.headE_zero.2 q)
      obtain ⟨q0, q1, q2, q3⟩ := HFA.out (fun q => hno q.2) _ b6
      have f0 := q0.frozen 0
      have f1 := q0.frozen 1
      have f2 := q0.frozen 2
      have f3 := q0.frozen 3
      have c0 : w6.cell? ⟨g, 0, none⟩ = some (.int .i64 0) := q0.cell (i := 0) (by omega)
      have c1 : w6.cell? ⟨g, 1, none⟩ = some (.int .i64 0) := q0.cell (i := 1) (by omega)
      have c2 : w6.cell? ⟨g, 2, none⟩ = some (.int .i64 0) := q0.cell (i := 2) (by omega)
      have c3 : w6.cell? ⟨g, 3, none⟩ = some (.int .i64 0) := q0.cell (i := 3) (by omega)
      have HQ : Hid (w6.rowIs g 31 4 (four 0 0 0 0) ∧ logE l key now = 1 ∧ logH l key now = ⟨0, 0, 0, 0⟩ ∧ Below w.heap.size w w6) := ⟨q0, q1, q2, q3⟩
      have e5 : ((E : Int) != 0) = true := by simpa using hE
      clear q0 q1 q2 q3 hk hno hE b6 p0 p1 p2 p3
      go_wp2_with fail
      refine bodyPost_ret (ret_log _ rfl (four_put HQ.out.1 0 0 0 0)) rfl ⟨by rw [HQ.out.2.1, HQ.out.2.2.1]; rfl, ?_⟩
      exact (((HQ.out.2.2.2.setCell (by rw [HG.out]; exact Nat.le_refl _) _).setCell (by rw [HG.out]; exact Nat.le_refl _) _).setCell (by rw [HG.out]; exact Nat.le_refl _) _).setCell (by rw [HG.out]; exact Nat.le_refl _) _
    · have hok : ok (bare l now) = true := Heads.headE_zero.1 (by rw [HBA.out, HE.out]; exact hE)
      have hE0 : logE l key now = 0 := by rw [HLE.out, if_pos ⟨hk, hok⟩]
      have HH : Hid (logE l key now = 0 ∧ logH l key now = ⟨(n : Int), rootE l, now, signOf (bare l now) key⟩) := ⟨hE0, by unfold logH; rw [if_pos hE0, hln]⟩
      have cS := fun w' => WalkHeadRef.signed_any (bare l now) key w' hok hk
      obtain ⟨X, HX⟩ : ∃ X, Hid (signOf (bare l now) key = X) := ⟨_, rfl⟩
      rw [HX.out] at cS HH
      rw [HBA.out] at cS
      simp only [hv] at cS
      have P6 := HP4.out.of_block (b6.block _ HP4.out.lt)
      have Q6 := HQ4.out.of_block (b6.block _ HQ4.out.lt)
      have HP6 : Hid (w6.rowIs ph 31 4 (four (n : Int) (rootE l) now 0)) := P6
      have HQ6 : Hid (w6.rowIs g 31 4 (four 0 0 0 0)) := Q6
      have HB6 : Hid (Below w.heap.size w w6) := bt HB4.out b6
      clear P6 Q6 b6 p0 p1 p2 p3 hk hok hE0 HFA
      have p0 : w6.cell? ⟨ph, 0, none⟩ = some (.int .i64 (n : Int)) := HP6.out.cell (i := 0) (by omega)
      have p1 : w6.cell? ⟨ph, 1, none⟩ = some (.int .i64 (rootE l)) := HP6.out.cell (i := 1) (by omega)
      have p2 : w6.cell? ⟨ph, 2, none⟩ = some (.int .i64 now) := HP6.out.cell (i := 2) (by omega)
      have p3 : w6.cell? ⟨ph, 3, none⟩ = some (.int .i64 0) := HP6.out.cell (i := 3) (by omega)
      have e5 : ((E : Int) != 0) = false := by rw [hE]; rfl
      clear hE
      go_wp2_with fail
      refine (cS _).mono ?_
      rintro e w7 ⟨rfl, b7⟩
      clear cS p0 p1 p2 p3
      have P7 := HP6.out.of_block (b7.block _ HP6.out.lt)
      have Q7 := HQ6.out.of_block (b7.block _ HQ6.out.lt)
      have c3 : w7.cell? ⟨ph, 3, none⟩ = some (.int .i64 0) := P7.cell (i := 3) (by omega)
      have f3 := P7.frozen 3
      have gp : ¬ g = ph := by have := HGP.out; omega
      have HP8 : Hid ((w7.setCell ⟨ph, 3, none⟩ (.int .i64 X)).rowIs ph 31 4 (four (n : Int) (rootE l) now X)) := (P7.set 3 (.int .i64 X)).congr fun i hi => (by match i, hi with | 0, _ => rfl | 1, _ => rfl | 2, _ => rfl | 3, _ => rfl)
      have HQ8 : Hid ((w7.setCell ⟨ph, 3, none⟩ (.int .i64 X)).rowIs g 31 4 (four 0 0 0 0)) := Q7.setOther gp _
      have HB8 : Hid (Below w.heap.size w (w7.setCell ⟨ph, 3, none⟩ (.int .i64 X))) := (bt HB6.out b7).setCell HPB.out _
      clear P7 Q7 b7
      go_upto_region 9 with fail
      generalize w7.setCell ⟨ph, 3, none⟩ (.int .i64 X) = w8 at HP8 HQ8 HB8 ⊢
      have p0 : w8.cell? ⟨ph, 0, none⟩ = some (.int .i64 (n : Int)) := HP8.out.cell (i := 0) (by omega)
      have p1 : w8.cell? ⟨ph, 1, none⟩ = some (.int .i64 (rootE l)) := HP8.out.cell (i := 1) (by omega)
      have p2 : w8.cell? ⟨ph, 2, none⟩ = some (.int .i64 now) := HP8.out.cell (i := 2) (by omega)
      have p3 : w8.cell? ⟨ph, 3, none⟩ = some (.int .i64 X) := HP8.out.cell (i := 3) (by omega)
      have z0 := HQ8.out.frozen 0
      have z1 := HQ8.out.frozen 1
      have z2 := HQ8.out.frozen 2
      have z3 := HQ8.out.frozen 3
      have c0 : w8.cell? ⟨g, 0, none⟩ = some (.int .i64 0) := HQ8.out.cell (i := 0) (by omega)
      have c1 : w8.cell? ⟨g, 1, none⟩ = some (.int .i64 0) := HQ8.out.cell (i := 1) (by omega)
      have c2 : w8.cell? ⟨g, 2, none⟩ = some (.int .i64 0) := HQ8.out.cell (i := 2) (by omega)
      have c4 : w8.cell? ⟨g, 3, none⟩ = some (.int .i64 0) := HQ8.out.cell (i := 3) (by omega)
      go_wp2_with fail
      refine bodyPost_ret (ret_log _ rfl (four_put HQ8.out _ _ _ _)) rfl ⟨by rw [HH.out.1, HH.out.2]; rfl, ?_⟩
      exact (((HB8.out.setCell (by rw [HG.out]; exact Nat.le_refl _) _).setCell (by rw [HG.out]; exact Nat.le_refl _) _).setCell (by rw [HG.out]; exact Nat.le_refl _) _).setCell (by rw [HG.out]; exact Nat.le_refl _) _

end Go.Proofs.YticadkggaanbjaaGreatDoor.WalkLogRef

/-
  What the document's own answer (package witref2) returns of sums as a text.
-/
namespace Go.Proofs.YticadkggaanbjaaGreatDoor.WalkSumsText
open Go.RowKit
open Lists (Row ints bt)
open Nums (str text)
open Answers (sumsT joined_snoc)
open Decimals (joined)

theorem joined_next (l : List Int) {k : Nat} (hk : k < l.length) : joined 32 ((l.take (k + 1)).map text) = (if k = 0 then joined 32 ((l.take k).map text) else joined 32 ((l.take k).map text) ++ [32]) ++ text l[k] := by
  rw [List.take_succ_eq_append_getElem hk, List.map_append]
  by_cases h : k = 0
  · subst h
    rw [if_pos rfl]
    simp [joined]
  · rw [if_neg h]
    have hne : (l.take k).map text ≠ [] := fun e => by
      have h2 : ((l.take k).map text).length = 0 := by rw [e]; rfl
      rw [List.length_map, List.length_take] at h2
      omega
    show joined 32 ((l.take k).map text ++ [text l[k]]) = _
    rw [joined_snoc 32 _ _ hne]
    simp
theorem joined_len : ∀ (l : List Int), (joined 32 (l.map text)).length ≤ 9 * l.length
  | [] => by simp [joined]
  | [x] => by simp [joined, Nums.text_length]
  | x :: y :: l => by
    have i := joined_len (y :: l)
    simp only [List.map_cons] at i ⊢
    rw [joined]
    simp only [List.length_append, List.length_cons, Nums.text_length] at i ⊢
    omega

set_option maxHeartbeats 4000000 in
set_option maxRecDepth 100000 in
theorem texts_any (l : List Int) (a : Option Addr) (n cap : Nat) (w : World) (hr : Row w a n cap (ints l)) (hn : n ≤ 1000) (hv : ∀ x ∈ l, Nums.valid x = true) :
    Calls Tryz.prog 43 #[.slice a n cap] w fun e w' => e = .returned (.string (str (sumsT l))) ∧ w' = w := by
  have hln : l.length = n := by rw [← hr.1, Lists.ints_length]
  have HR : Hid (Row w a n cap (ints l)) := hr
  have HV : Hid (∀ x ∈ l, Nums.valid x = true) := hv
  have HN : Hid (l.length = n) := hln
  by_cases h0 : n = 0
  · have HT : Hid (sumsT l = [45]) := if_pos (List.length_eq_zero_iff.1 (by omega))
    subst h0
    clear hr hv hln HR HV HN
    go_enter Tryz.func43, Tryz.ntmps43
    go_wp2_with fail
    go_ret
    exact ⟨by rw [HT.out]; rfl, rfl⟩
  · have HT : Hid (sumsT l = joined 32 (l.map text)) := if_neg (fun e => h0 (by rw [← hln, e]; rfl))
    have hne : ((n : Int) == 0) = false := by simp; omega
    have hne2 : ¬ (n : Int) = 0 := by omega
    clear hr hv hln
    go_enter Tryz.func43, Tryz.ntmps43
    go_upto_region 5 with fail
    go_loopw [3, 4, 5] (fun sv kv _ wr => ∃ (k : Nat) (S : ByteArray), k ≤ n ∧ kv = .int .i64 (k : Int) ∧ sv = .string S ∧ Hid (S = str (joined 32 ((l.take k).map text))) ∧ w = wr) (fun _ kv _ _ => n - (intOf kv).toNat)
    case atStart => exact ⟨0, ⟨#[]⟩, Nat.zero_le _, rfl, rfl, rfl, rfl⟩
    case round =>
      obtain ⟨k, S, hk, rfl, rfl, HS, rfl⟩ := hrel
      by_cases hlt : k < n
      · have i1 : (k : Int) < (n : Int) := by omega
        have hkl : k < l.length := by have := HN.out; omega
        obtain ⟨b, off, rfl, hc⟩ := HR.out.2.2 (by omega)
        have hcell := hc k _ (Lists.ints_at hkl)
        clear hc
        have hx : l.getD k 0 = l[k] := by simp [List.getD, List.getElem?_eq_getElem hkl]
        rw [hx] at hcell
        have hvx := HV.out l[k] (List.getElem_mem hkl)
        have cT := fun w => WalkRef.text_any l[k] w hvx
        have zT := WalkHeadRef.text_small l[k]
        have hj := joined_next l hkl
        have hsz : S.size ≤ 9 * 1000 := by
          rw [HS.out, Nums.str_size]
          have := joined_len (l.take k)
          rw [List.length_take] at this
          omega
        generalize l[k] = x at hcell cT zT hj
        by_cases hk0 : k = 0
        · subst hk0
          rw [if_pos rfl] at hj
          rw [Nat.add_zero] at hcell
          have HS2 : Hid (S ++ str (text x) = str (joined 32 ((l.take 1).map text))) := by show _ = _; rw [hj, HS.out, Nums.str_append]
          generalize str (text x) = X at cT zT HS2
          have hq : ¬ 9223372036854775807 < S.size + X.size := by omega
          clear hj hvx hx
          go_wp2_with (go_at_call 48; refine (cT _).mono ?_; rintro e w2 ⟨rfl, rfl⟩)
          go_roundw
          case rel => exact ⟨1, S ++ X, by omega, by go_num, rfl, HS2, by trivial⟩
          case measure => simp [intOf]; omega
        · rw [if_neg hk0] at hj
          have i2 : (0 : Int) < (k : Int) := by omega
          have HS2 : Hid (S ++ ⟨#[32]⟩ ++ str (text x) = str (joined 32 ((l.take (k + 1)).map text))) := by
            show _ = _
            rw [hj, HS.out, show (⟨#[32]⟩ : ByteArray) = str [32] from rfl, Nums.str_append, Nums.str_append]
          generalize str (text x) = X at cT zT HS2
          have hq : ¬ 9223372036854775807 < S.size + 1 := by omega
          have hs1 : (S ++ (⟨#[32]⟩ : ByteArray)).size = S.size + 1 := by rw [ByteArray.size_append]; rfl
          have hq2 : ¬ 9223372036854775807 < (S ++ (⟨#[32]⟩ : ByteArray)).size + X.size := by omega
          clear hj hvx hx
          go_wp2_with (go_at_call 48; refine (cT _).mono ?_; rintro e w2 ⟨rfl, rfl⟩)
          go_roundw
          case rel => exact ⟨k + 1, _, by omega, by go_num, rfl, HS2, by trivial⟩
          case measure => simp [intOf]; omega
      · obtain rfl : k = n := by omega
        have i1 : ¬ (k : Int) < (k : Int) := by omega
        have HE : Hid (S = str (sumsT l)) := by
          show _ = _
          rw [HS.out, HT.out, List.take_of_length_le (by have := HN.out; omega)]
        clear HS
        go_wp2_with fail
        go_ret
        exact ⟨by rw [← HE.out]; rfl, rfl⟩

end Go.Proofs.YticadkggaanbjaaGreatDoor.WalkSumsText

/-
  What the document's own answers (package witref1) return on tiles: power, Tiles, TileSums.
-/
namespace Go.Proofs.YticadkggaanbjaaGreatDoor.WalkTileRef
open Go.RowKit
open Lists (Row ints bt)
open Keeps (Kept owns_kept owns_row owns_base)
open Wides (Wide)
open Tiles (Tile row upto tiles)
open TileRows (cells cells_append)

theorem power_any (L D : Nat) (w : World) (h : L ≤ 3) (hD : D = 4 ^ L) :
    Calls Tryz.prog 108 #[.int .i64 (L : Int)] w fun e w' => e = .returned (.int .i64 (D : Int)) ∧ w' = w := by
  have HD : Hid (D = 4 ^ L) := hD
  clear hD
  go_enter Tryz.func108, Tryz.ntmps108
  go_wp2_with fail
  go_loop [3, 4] (fun n i => ∃ k d : Nat, k ≤ L ∧ i = .int .i64 (k : Int) ∧ n = .int .i64 (d : Int) ∧ Hid (d = 4 ^ k) ∧ d ≤ 64) (fun _ i => L - (intOf i).toNat)
  case atStart => exact ⟨0, 1, Nat.zero_le _, rfl, rfl, rfl, by omega⟩
  case round =>
    obtain ⟨k, d, hk, rfl, rfl, HE, hd⟩ := hrel
    by_cases hlt : k < L
    · have i1 : (k : Int) < (L : Int) := by omega
      have hd2 : d ≤ 16 := by
        rw [HE.out]
        have : k ≤ 2 := by omega
        exact Nat.le_trans (Nat.pow_le_pow_right (by omega) this) (by decide)
      go_wp2_with fail
      go_round
      case rel => exact ⟨k + 1, d * 4, by omega, by go_num, by go_num, by show _ = _; rw [HE.out, Nat.pow_succ], by omega⟩
      case measure => simp [intOf]; omega
    · have i1 : ¬ (k : Int) < (L : Int) := by omega
      obtain rfl : k = L := by omega
      go_wp2_with fail
      go_ret
      exact ⟨by rw [show D = d from HD.out.trans HE.out.symm]; rfl, rfl⟩

theorem div_cast (n d : Nat) : ((n / d : Nat) : Int) = (n : Int) / (d : Int) := by first | exact Int.natCast_ediv n d | rfl
theorem wrap_small (m : Nat) (h : m ≤ 200) : wrap64 (m : Int) = (m : Int) := by
  simp only [wrap64]
  omega

theorem infoT : (Tryz.prog.info? 67).map (fun i => (i.zero, i.size, i.bytes)) = some (some (.agg #[.int .i64 0, .int .i64 0, .int .i64 0]), 3, 24) := by kernel_rfl

theorem cell_three_new (w : World) (x y z : Value) (t : TypeId) : ∀ j u, [x, y, z][j]? = some u → (w.alloc (.cells #[x, y, z] t)).cell? ((⟨w.heap.size, 0, none⟩ : Addr).add j) = some u := by
  intro j u hj
  match j, hj with
  | 0, hj => simp at hj; subst hj; simp [Addr.add]
  | 1, hj => simp at hj; subst hj; simp [Addr.add]
  | 2, hj => simp at hj; subst hj; simp [Addr.add]

set_option maxHeartbeats 4000000 in
set_option maxRecDepth 100000 in
theorem tiles_any (n : Nat) (w : World) (hn : n ≤ 200) :
    Calls Tryz.prog 46 #[.int .i64 (n : Int)] w fun e w' => ∃ v, e = .returned v ∧ w'.ownsRow w.heap.size 67 3 v (tiles n).length (cells (tiles n)) ∧ Below w.heap.size w w' := by
  obtain ⟨i0, hi, hz0, hz1, hz2⟩ := info_parts infoT
  go_enter Tryz.func46, Tryz.ntmps46
  go_wp2_with fail
  go_loopw [3, 4] (fun v c wr => ∃ L : Nat, L ≤ 4 ∧ c = .int .i64 (L : Int) ∧ wr.ownsRow w.heap.size 67 3 v (upto n L).length (cells (upto n L)) ∧ Below w.heap.size w wr) (fun _ c _ => 4 - (intOf c).toNat)
  case atStart => exact ⟨0, by omega, rfl, World.ownsRow_nil _ _ _ _, Below.refl _ _⟩
  case round =>
    obtain ⟨L, hL, rfl, hown, hb⟩ := hrel
    have HO : Hid (wr.ownsRow w.heap.size 67 3 u3 (upto n L).length (cells (upto n L))) := hown
    have HB : Hid (Below w.heap.size w wr) := hb
    have hul := Tiles.upto_length n L hL hn
    clear hown hb
    by_cases hlt : L < 4
    · have i1 : (L : Int) < 4 := by omega
      have hp := Tiles.pow_four L hlt
      have HD : Hid (upto n (L + 1) = upto n L ++ row L (n / 4 ^ L)) := rfl
      have hm : n / 4 ^ L ≤ 200 := Nat.le_trans (Nat.div_le_self _ _) hn
      go_wp2_with fail
      generalize hd : 4 ^ L = D at hp hm HD
      have d0 : ((D : Int) == 0) = false := by rw [beq_eq_false_iff_ne]; omega
      refine (power_any L D _ (by omega) hd.symm).mono ?_
      rintro e w1 ⟨rfl, rfl⟩
      have q : wrap64 ((n : Int) / (D : Int)) = ((n / D : Nat) : Int) := by
        rw [← div_cast n D]
        exact wrap_small _ hm
      go_wp2_with fail
      rw [q]
      generalize n / D = M at hm HD
      clear q hp hd d0
      go_loopw [3, 5, 6] (fun v r i wr => ∃ k : Nat, k ≤ (M + 3) / 4 ∧ i = .int .i64 (k : Int) ∧ r = .int .i64 ((M - 4 * k : Nat) : Int) ∧ wr.ownsRow w.heap.size 67 3 v (upto n L ++ (row L M).take k).length (cells (upto n L ++ (row L M).take k)) ∧ Below w.heap.size w wr) (fun _ r _ _ => (intOf r).toNat)
      case atStart => exact ⟨0, by omega, rfl, rfl, by simpa using HO.out, HB.out⟩
      case round =>
        obtain ⟨k, hk, rfl, rfl, hown, hb⟩ := hrel
        have HO2 : Hid (wr.ownsRow w.heap.size 67 3 u3 (upto n L ++ (row L M).take k).length (cells (upto n L ++ (row L M).take k))) := hown
        have HB2 : Hid (Below w.heap.size w wr) := hb
        have hl2 : (upto n L ++ (row L M).take k).length ≤ 300 := by
          rw [List.length_append, List.length_take, Tiles.row_length]
          omega
        clear hown hb HO HB
        by_cases h0 : 4 * k < M
        · have hk2 := h0
          have i3 : ((M - 4 * k : Nat) : Int) > 0 := by omega
          by_cases h4 : M - 4 * k < 4
          · have i4 : ((M - 4 * k : Nat) : Int) < 4 := by omega
            have HT : Hid ((row L M).take (k + 1) = (row L M).take k ++ [(L, k, M - 4 * k)]) := by
              have h := Tiles.row_take L M k hk2
              rw [show min 4 (M - 4 * k) = M - 4 * k by omega] at h
              exact h
            go_wp2_with (at_builtin; go_must (refine wpList_append_own _ rfl (.tmp 23) (.tmp 28) 88 rfl w.heap.size 67 i0 (.agg #[.int .i64 0, .int .i64 0, .int .i64 0]) 3 24 Tryz.underlying88 hi hz0 hz1 hz2 rfl (by decide) _ _ _ rfl (HO2.out.alloc _) ⟨_, 0, none⟩ 1 1 [.int .i64 (L : Int), .int .i64 (k : Int), .int .i64 (((M - 4 * k : Nat) : Int))] rfl rfl (cell_three_new _ _ _ _ _) (fun u hu => by simp at hu; rcases hu with rfl | rfl | rfl <;> rfl) (by unfold maxLen; omega) (by omega) (by have := HB2.out.size; simp; omega) ?_); intro v1 wn o1 g1 z1; clear z1)
            have HBN : Hid (Below w.heap.size w wn) := (HB2.out.alloc HB2.out.size _).grown g1 (by have := HB2.out.size; simp; omega) (fun k hk => (HO2.out.lt k hk).1)
            have HON : Hid (wn.ownsRow w.heap.size 67 3 v1 (upto n L ++ (row L M).take (k + 1)).length (cells (upto n L ++ (row L M).take (k + 1)))) := by
              rw [HT.out, ← List.append_assoc, cells_append]
              rw [show (upto n L ++ List.take k (row L M) ++ [((L, k, M - 4 * k) : Tile)] : List Tile).length = (upto n L ++ List.take k (row L M)).length + 1 by simp; omega]
              exact o1
            clear g1 o1 HO2 HB2
            go_round
            case rel => exact ⟨k + 1, by omega, by go_num, by go_num, HON.out, HBN.out⟩
            case measure => simp [intOf]; omega
          · have i4 : ¬ ((M - 4 * k : Nat) : Int) < 4 := by omega
            have HT : Hid ((row L M).take (k + 1) = (row L M).take k ++ [(L, k, 4)]) := by
              have h := Tiles.row_take L M k hk2
              rw [show min 4 (M - 4 * k) = 4 by omega] at h
              exact h
            go_wp2_with (at_builtin; go_must (refine wpList_append_own _ rfl (.tmp 23) (.tmp 28) 88 rfl w.heap.size 67 i0 (.agg #[.int .i64 0, .int .i64 0, .int .i64 0]) 3 24 Tryz.underlying88 hi hz0 hz1 hz2 rfl (by decide) _ _ _ rfl (HO2.out.alloc _) ⟨_, 0, none⟩ 1 1 [.int .i64 (L : Int), .int .i64 (k : Int), .int .i64 (4)] rfl rfl (cell_three_new _ _ _ _ _) (fun u hu => by simp at hu; rcases hu with rfl | rfl | rfl <;> rfl) (by unfold maxLen; omega) (by omega) (by have := HB2.out.size; simp; omega) ?_); intro v1 wn o1 g1 z1; clear z1)
            have HBN : Hid (Below w.heap.size w wn) := (HB2.out.alloc HB2.out.size _).grown g1 (by have := HB2.out.size; simp; omega) (fun k hk => (HO2.out.lt k hk).1)
            have HON : Hid (wn.ownsRow w.heap.size 67 3 v1 (upto n L ++ (row L M).take (k + 1)).length (cells (upto n L ++ (row L M).take (k + 1)))) := by
              rw [HT.out, ← List.append_assoc, cells_append]
              rw [show (upto n L ++ List.take k (row L M) ++ [((L, k, 4) : Tile)] : List Tile).length = (upto n L ++ List.take k (row L M)).length + 1 by simp; omega]
              exact o1
            clear g1 o1 HO2 HB2
            go_round
            case rel => exact ⟨k + 1, by omega, by go_num, by go_num, HON.out, HBN.out⟩
            case measure => simp [intOf]; omega
        · have i3 : ¬ ((M - 4 * k : Nat) : Int) > 0 := by omega
          have HF : Hid (wr.ownsRow w.heap.size 67 3 u3 (upto n (L + 1)).length (cells (upto n (L + 1)))) := by
            have h := HO2.out
            rw [Tiles.row_all L M k (by omega), ← HD.out] at h
            exact h
          clear HO2
          go_wp2_with fail
          go_round
          case rel => exact ⟨L + 1, by omega, by go_num, HF.out, HB2.out⟩
          case measure => simp [intOf]; omega
    · have i1 : ¬ (L : Int) < 4 := by omega
      obtain rfl : L = 4 := by omega
      go_wp2_with fail
      go_ret
      exact ⟨_, rfl, HO.out, HB.out⟩

theorem info3 : (Tryz.prog.info? 3).map (fun i => (i.zero, i.size, i.bytes)) = some (some (.int .i64 0), 1, 8) := by kernel_rfl

set_option maxHeartbeats 4000000 in
set_option maxRecDepth 100000 in
theorem sums_any (l : List Int) (a : Option Addr) (n cap : Nat) (A B C : Nat) (w : World) (hn : n ≤ 200) (hr : Row w a n cap (ints l)) (hv : ∀ x ∈ l, Nums.valid x = true) (hA : A < 4) (hB : B ≤ 50) (hC : C ≤ 4) (ht : Tiles.there n (A, B, C) = true) :
    Calls Tryz.prog 47 #[.slice a n cap, .agg #[.int .i64 (A : Int), .int .i64 (B : Int), .int .i64 (C : Int)]] w fun e w' => ∃ v, e = .returned v ∧ w'.ownsRow w.heap.size 3 1 v (Tiles.sumsOf l (A, B, C)).length (ints (Tiles.sumsOf l (A, B, C))) ∧ Below w.heap.size w w' := by
  have hln : l.length = n := by rw [← hr.1, Lists.ints_length]
  obtain ⟨i0, hi, hz0, hz1, hz2⟩ := info_parts info3
  have hp := Tiles.pow_four A hA
  have HN : Hid (∀ k, k < C → (4 * B + k) * 4 ^ A + 4 ^ A ≤ n) := fun k hk => Tiles.there_in ht hk
  have b0 : Below w.heap.size w (w.alloc (.cells #[.int .i64 (A : Int), .int .i64 (B : Int), .int .i64 (C : Int)] 67)) := (Below.refl _ _).alloc (Nat.le_refl _) _
  have HB0 : Hid (Below w.heap.size w (w.alloc (.cells #[.int .i64 (A : Int), .int .i64 (B : Int), .int .i64 (C : Int)] 67))) := b0
  have HR : Hid (Row (w.alloc (.cells #[.int .i64 (A : Int), .int .i64 (B : Int), .int .i64 (C : Int)] 67)) a n cap (ints l)) := hr.below b0
  have c0 : (w.alloc (.cells #[.int .i64 (A : Int), .int .i64 (B : Int), .int .i64 (C : Int)] 67)).cell? ⟨w.heap.size, 0, none⟩ = some (.int .i64 (A : Int)) := by simp
  have c1 : (w.alloc (.cells #[.int .i64 (A : Int), .int .i64 (B : Int), .int .i64 (C : Int)] 67)).cell? ⟨w.heap.size, 1, none⟩ = some (.int .i64 (B : Int)) := by simp
  have c2 : (w.alloc (.cells #[.int .i64 (A : Int), .int .i64 (B : Int), .int .i64 (C : Int)] 67)).cell? ⟨w.heap.size, 2, none⟩ = some (.int .i64 (C : Int)) := by simp
  have HV : Hid (∀ x ∈ l, Nums.valid x = true) := hv
  clear hr hv b0 ht
  go_enter Tryz.func47, Tryz.ntmps47
  go_wp2_with fail
  generalize w.alloc (.cells #[.int .i64 (A : Int), .int .i64 (B : Int), .int .i64 (C : Int)] 67) = w0 at HB0 HR c0 c1 c2 ⊢
  generalize hd : 4 ^ A = D at hp HN
  refine (power_any A D _ (by omega) hd.symm).mono ?_
  rintro e w1 ⟨rfl, rfl⟩
  go_wp2_with fail
  go_loopw [5, 7] (fun v i wr => ∃ k : Nat, k ≤ C ∧ i = .int .i64 (k : Int) ∧ wr.ownsRow w1.heap.size 3 1 v ((Tiles.sumsOf l (A, B, C)).take k).length (ints ((Tiles.sumsOf l (A, B, C)).take k)) ∧ Below w1.heap.size w1 wr) (fun _ i _ => C - (intOf i).toNat)
  case atStart => exact ⟨0, by omega, rfl, World.ownsRow_nil _ _ _ _, Below.refl _ _⟩
  case round =>
    obtain ⟨k, hk, rfl, hown, hb⟩ := hrel
    have k1 := Lists.cell_below hb c1
    have k2 := Lists.cell_below hb c2
    have HO : Hid (wr.ownsRow w1.heap.size 3 1 u5 ((Tiles.sumsOf l (A, B, C)).take k).length (ints ((Tiles.sumsOf l (A, B, C)).take k))) := hown
    have HB : Hid (Below w1.heap.size w1 wr) := hb
    have hl2 : ((Tiles.sumsOf l (A, B, C)).take k).length ≤ 4 := by rw [List.length_take, Tiles.sumsOf_length]; omega
    clear hown hb
    by_cases h0 : k < C
    · have i3 : (k : Int) < (C : Int) := by omega
      have hF := HN.out k h0
      have HX : Hid (Tiles.sumAt l A (4 * B + k) = Climbs.rootAt l ((4 * B + k) * D, (4 * B + k) * D + D)) := by show _ = _; rw [Tiles.sumAt, hd]
      have q : wrap64 ((4 * (B : Int) + (k : Int)) * (D : Int)) = (((4 * B + k) * D : Nat) : Int) := by
        have e : (((4 * B + k) * D : Nat) : Int) = (4 * (B : Int) + (k : Int)) * (D : Int) := by push_cast; rfl
        rw [← e]
        exact wrap_small _ (by omega)
      go_upto_region 7 with fail
      rw [q]
      generalize (4 * B + k) * D = F at hF HX
      clear q
      have d1 : 1 ≤ D := by omega
      have hcap := HR.out.2.1
      have hrow : Row wr (if cap = F then a else a.map (·.add F)) (F + D - F) (cap - F) (ints ((l.take (F + D)).drop F)) := by
        rw [Lists.ints_drop, Lists.ints_take]
        exact (HR.out.below HB.out).cut F (F + D) (by omega) hF
      rw [if_neg (by omega), show F + D - F = D by omega] at hrow
      have cR := WalkTreeRef.root_le _ _ D _ wr (by omega) hrow (fun x hx => HV.out x (List.mem_of_mem_take (List.mem_of_mem_drop hx)))
      have e1 : (F + D - F : Nat) = D := by omega
      have i5 : (F : Int) ≤ (F : Int) + (D : Int) := by omega
      have i6 : (F : Int) + (D : Int) ≤ (cap : Int) := by omega
      have HS : Hid ((Tiles.sumsOf l (A, B, C)).take (k + 1) = (Tiles.sumsOf l (A, B, C)).take k ++ [Trees.root ((l.take (F + D)).drop F)]) := by
        have h := Tiles.sumsOf_take l (A, B, C) k h0
        rw [show Tiles.sumAt l (A, B, C).1 (4 * (A, B, C).2.1 + k) = Trees.root ((l.take (F + D)).drop F) from HX.out] at h
        exact h
      generalize Trees.root ((l.take (F + D)).drop F) = X at cR HS
      clear hrow HX hp hd
      go_wp2_with fail
      refine cR.mono ?_
      rintro e w2 ⟨rfl, b2⟩
      have HO2 : Hid (w2.ownsRow w1.heap.size 3 1 u5 ((Tiles.sumsOf l (A, B, C)).take k).length (ints ((Tiles.sumsOf l (A, B, C)).take k))) := owns_kept HO.out (Kept.of_below (fun _ => False) b2) fun _ _ q => q
      have HB2 : Hid (Below w1.heap.size w1 w2) := bt HB.out b2
      clear cR b2 HO HB
      go_wp2_with (at_builtin; go_must (refine wpList_append_own _ rfl (.tmp 33) (.tmp 35) 45 rfl w1.heap.size 3 i0 (.int .i64 0) 1 8 Tryz.underlying45 hi hz0 hz1 hz2 rfl (by decide) _ _ _ rfl (HO2.out.alloc _) ⟨_, 0, none⟩ 1 1 [.int .i64 X] rfl rfl (cell_one_new _ _ _) (fun u hu => by rw [List.mem_singleton.1 hu]; rfl) (by unfold maxLen; omega) (by omega) (by have := HB2.out.size; simp; omega) ?_); intro v1 wn o1 g1 z1; clear z1)
      have HBN : Hid (Below w1.heap.size w1 wn) := (HB2.out.alloc HB2.out.size _).grown g1 (by have := HB2.out.size; simp; omega) (fun k hk => (HO2.out.lt k hk).1)
      have HON : Hid (wn.ownsRow w1.heap.size 3 1 v1 ((Tiles.sumsOf l (A, B, C)).take (k + 1)).length (ints ((Tiles.sumsOf l (A, B, C)).take (k + 1)))) := by
        rw [HS.out, List.length_append, show ints ((Tiles.sumsOf l (A, B, C)).take k ++ [X]) = ints ((Tiles.sumsOf l (A, B, C)).take k) ++ [.int .i64 X] by simp [ints]]
        exact o1
      clear g1 o1 HO2 HB2
      go_round
      case rel => exact ⟨k + 1, by omega, by go_num, HON.out, HBN.out⟩
      case measure => simp [intOf]; omega
    · have i3 : ¬ (k : Int) < (C : Int) := by omega
      have HF : Hid (wr.ownsRow w1.heap.size 3 1 u5 (Tiles.sumsOf l (A, B, C)).length (ints (Tiles.sumsOf l (A, B, C)))) := by
        have h := HO.out
        rw [List.take_of_length_le (by rw [Tiles.sumsOf_length]; simp only; omega)] at h
        exact h
      go_wp2_with fail
      go_ret
      exact ⟨_, rfl, owns_base HF.out HB0.out.size, bt HB0.out HB.out⟩

end Go.Proofs.YticadkggaanbjaaGreatDoor.WalkTileRef

