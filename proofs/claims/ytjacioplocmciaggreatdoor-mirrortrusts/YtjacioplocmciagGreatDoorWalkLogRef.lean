/-
  What the document's own answer (package witref2) returns as the head of a log: LogHead.
-/
import Derived.Test.YtjacioplocmciagGreatDoorMirrors
import Derived.Test.YtjacioplocmciagGreatDoorWalkRootOf
import Derived.Test.YtjacioplocmciagGreatDoorEntRef
import Derived.Test.YtjacioplocmciagGreatDoorHeadRows
import Derived.Test.YtjacioplocmciagGreatDoorHeadRef
import Derived.Deep.MidRow
import Derived.Laws.ResultCell
namespace Go.Proofs.YtjacioplocmciagGreatDoor.WalkLogRef
open Go.RowKit
open Lists (Row ints bt)
open Wides (Wide owns_wide)
open Heads (Head zero ok isKey signOf)
open HeadVals (hv aggH sizeH At)
open Entries (Entry entE entsE leafsOf)
open EntRows (cells)
open Mirrors (rootE)

/-- the head of a log, without its sign -/
def bare (l : List Entry) (now : Int) : Head := ⟨l.length, rootE l, now, 0⟩
def logE (l : List Entry) (key now : Int) : Nat := if entsE l = 0 then (if isKey key = true ∧ ok (bare l now) = true then 0 else 1) else entsE l
def logH (l : List Entry) (key now : Int) : Head := if logE l key now = 0 then ⟨l.length, rootE l, now, signOf (bare l now) key⟩ else zero

def four (a b c d : Int) : Nat → Value
  | 0 => .int .i64 a
  | 1 => .int .i64 b
  | 2 => .int .i64 c
  | _ => .int .i64 d
theorem ret_log {w : World} {g : Nat} {a b c d : Int} (tmps : Array Value) (hp : tmps.getD 6 undef = .pointer (some ⟨g, 0, none⟩)) (h : w.rowIs g 60 4 (four a b c d)) :
    (results Tryz.f42 tmps).run Tryz.prog w = .ok (.tuple #[hv ⟨a, b, c, d⟩, tmps.getD 7 undef]) w := by
  have hl := run_loadVar_mid (P := Tryz.prog) w g 0 60 [.int .i64 a, .int .i64 b, .int .i64 c, .int .i64 d] _ (fun j v hv => by
    match j, hv with
    | 0, hv => simp at hv; subst hv; simpa [four] using h.cell (i := 0) (by omega)
    | 1, hv => simp at hv; subst hv; simpa [four] using h.cell (i := 1) (by omega)
    | 2, hv => simp at hv; subst hv; simpa [four] using h.cell (i := 2) (by omega)
    | 3, hv => simp at hv; subst hv; simpa [four] using h.cell (i := 3) (by omega)) Tryz.underlying60 rfl (by kernel_rfl)
  rw [results_cell_tmp rfl, hp]
  simp [asAddr, hl, Result.andThen, hv]
theorem four_new (w : World) (a b c d : Int) : (w.alloc (.cells #[.int .i64 a, .int .i64 b, .int .i64 c, .int .i64 d] 60)).rowIs w.heap.size 60 4 (four a b c d) := World.rowIs_alloc w #[.int .i64 a, .int .i64 b, .int .i64 c, .int .i64 d] _ _ (by intro i hi; match i, hi with | 0, _ => rfl | 1, _ => rfl | 2, _ => rfl | 3, _ => rfl)
theorem four_put {w : World} {g : Nat} {f : Nat → Value} (h : w.rowIs g 60 4 f) (a b c d : Int) : ((((w.setCell ⟨g, 0, none⟩ (.int .i64 a)).setCell ⟨g, 1, none⟩ (.int .i64 b)).setCell ⟨g, 2, none⟩ (.int .i64 c)).setCell ⟨g, 3, none⟩ (.int .i64 d)).rowIs g 60 4 (four a b c d) := by
  refine ((((h.set 0 (.int .i64 a)).set 1 (.int .i64 b)).set 2 (.int .i64 c)).set 3 (.int .i64 d)).congr fun i hi => ?_
  match i, hi with
  | 0, _ => rfl
  | 1, _ => rfl
  | 2, _ => rfl
  | 3, _ => rfl

set_option maxHeartbeats 4000000 in
set_option maxRecDepth 100000 in
theorem log_any (l : List Entry) (a : Option Addr) (n cap : Nat) (key now : Int) (w : World) (hr : Wide 2 w a n cap (cells l)) (hz : ∀ e ∈ l, e.2.size ≤ maxLen) :
    Calls Tryz.prog 42 #[.slice a n cap, .int .i64 key, .int .i64 now] w fun e w' => e = .returned (.tuple #[hv (logH l key now), .int .i64 (logE l key now : Nat)]) ∧ Below w.heap.size w w' := by
  have aH := aggH
  have zH := sizeH
  have hln := EntRows.len_of hr
  have HR : Hid (Wide 2 w a n cap (cells l)) := hr
  have HZ : Hid (∀ e ∈ l, e.2.size ≤ maxLen) := hz
  clear hr hz
  go_enter Tryz.func42, Tryz.ntmps42
  go_upto_region 1 with fail
  have hb0 : Below w.heap.size w (w.alloc (.cells #[.int .i64 0, .int .i64 0, .int .i64 0, .int .i64 0] 60)) := (Below.refl _ _).alloc (Nat.le_refl _) _
  have HB0 : Hid (Below w.heap.size w (w.alloc (.cells #[.int .i64 0, .int .i64 0, .int .i64 0, .int .i64 0] 60))) := hb0
  have HQ0 : Hid ((w.alloc (.cells #[.int .i64 0, .int .i64 0, .int .i64 0, .int .i64 0] 60)).rowIs w.heap.size 60 4 (four 0 0 0 0)) := four_new w 0 0 0 0
  clear hb0
  generalize w.alloc (.cells #[.int .i64 0, .int .i64 0, .int .i64 0, .int .i64 0] 60) = w0 at HB0 HQ0 ⊢
  obtain ⟨g, HG⟩ : ∃ g, Hid (w.heap.size = g) := ⟨_, rfl⟩
  rw [show w.heap.size = g from HG.out]
  have HQ : Hid (w0.rowIs g 60 4 (four 0 0 0 0)) := by rw [← HG.out]; exact HQ0.out
  clear HQ0
  have cE := WalkEntriesRef.entries_any l a n cap w0 (HR.out.below HB0.out) HZ.out
  obtain ⟨T, HT⟩ : ∃ T, Hid (entsE l = T) := ⟨_, rfl⟩
  rw [HT.out] at cE
  go_wp2_with fail
  refine cE.mono ?_
  rintro e w1 ⟨rfl, b1⟩
  have HB1 : Hid (Below w.heap.size w w1) := bt HB0.out b1
  have HQ1 : Hid (w1.rowIs g 60 4 (four 0 0 0 0)) := HQ.out.of_block (b1.block _ HQ.out.lt)
  clear cE b1 HQ HB0 w0
  by_cases hT : T = 0
  rotate_left
  · have hE : logE l key now = T := by unfold logE; rw [HT.out, if_neg hT]
    have HEH : Hid (logE l key now = T ∧ logH l key now = ⟨0, 0, 0, 0⟩) := ⟨hE, by unfold logH; rw [if_neg (by rw [hE]; exact hT)]; rfl⟩
    have e1 : ((T : Int) != 0) = true := by simpa using hT
    have f0 := HQ1.out.frozen 0
    have f1 := HQ1.out.frozen 1
    have f2 := HQ1.out.frozen 2
    have f3 := HQ1.out.frozen 3
    have c0 : w1.cell? ⟨g, 0, none⟩ = some (.int .i64 0) := HQ1.out.cell (i := 0) (by omega)
    have c1 : w1.cell? ⟨g, 1, none⟩ = some (.int .i64 0) := HQ1.out.cell (i := 1) (by omega)
    have c2 : w1.cell? ⟨g, 2, none⟩ = some (.int .i64 0) := HQ1.out.cell (i := 2) (by omega)
    have c3 : w1.cell? ⟨g, 3, none⟩ = some (.int .i64 0) := HQ1.out.cell (i := 3) (by omega)
    clear hT hE
    go_wp2_with fail
    refine bodyPost_ret (ret_log _ rfl (four_put HQ1.out 0 0 0 0)) rfl ⟨by rw [HEH.out.1, HEH.out.2]; rfl, ?_⟩
    exact (((HB1.out.setCell (by rw [HG.out]; exact Nat.le_refl _) _).setCell (by rw [HG.out]; exact Nat.le_refl _) _).setCell (by rw [HG.out]; exact Nat.le_refl _) _).setCell (by rw [HG.out]; exact Nat.le_refl _) _
  have e1 : ((T : Int) != 0) = false := by rw [hT]; rfl
  have h0 : entsE l = 0 := by rw [HT.out]; exact hT
  have HLE : Hid (logE l key now = if isKey key = true ∧ ok (bare l now) = true then 0 else 1) := if_pos h0
  have cL := WalkUnpackRef.leafs_any l a n cap w1 (HR.out.below HB1.out) h0
  have h200 := (Entries.ents_ok h0).1
  clear hT h0 HT HZ HR
  go_wp2_with fail
  refine cL.mono ?_
  rintro e w2 ⟨v, rfl, o2, b2⟩
  have cR := WalkRootOf.root_of l v w2 _ o2 (by omega)
  clear cL o2
  go_wp2_with fail
  refine cR.mono ?_
  rintro e w3 ⟨rfl, b3⟩
  have hb3 := bt b2 b3
  have HB3 : Hid (Below w.heap.size w w3) := bt HB1.out hb3
  have HQ3 : Hid (w3.rowIs g 60 4 (four 0 0 0 0)) := HQ1.out.of_block (hb3.block _ HQ1.out.lt)
  clear cR b2 b3 hb3 HQ1 HB1
  go_upto_region 5 with fail
  have HQ4 : Hid ((w3.alloc (.cells #[.int .i64 (n : Int), .int .i64 (rootE l), .int .i64 now, .int .i64 0] 60)).rowIs g 60 4 (four 0 0 0 0)) := HQ3.out.alloc _
  have HP4 : Hid ((w3.alloc (.cells #[.int .i64 (n : Int), .int .i64 (rootE l), .int .i64 now, .int .i64 0] 60)).rowIs w3.heap.size 60 4 (four (n : Int) (rootE l) now 0)) := four_new w3 _ _ _ _
  have HB4 : Hid (Below w.heap.size w (w3.alloc (.cells #[.int .i64 (n : Int), .int .i64 (rootE l), .int .i64 now, .int .i64 0] 60))) := HB3.out.alloc HB3.out.size _
  have HGP : Hid (g < w3.heap.size) := HQ3.out.lt
  clear HQ3
  generalize w3.alloc (.cells #[.int .i64 (n : Int), .int .i64 (rootE l), .int .i64 now, .int .i64 0] 60) = w4 at HQ4 HP4 HB4 ⊢
  have HPB : Hid (w.heap.size ≤ w3.heap.size) := HB3.out.size
  generalize w3.heap.size = ph at HP4 HGP HPB ⊢
  clear HB3
  have hbare : bare l now = ⟨(n : Int), rootE l, now, 0⟩ := by unfold bare; rw [hln]
  have HBA : Hid (bare l now = ⟨(n : Int), rootE l, now, 0⟩) := hbare
  clear hbare
  go_wp2_with fail
  refine (WalkHeadRef.key_any key _).mono ?_
  rintro e w5 ⟨rfl, rfl⟩
  have HFA : Hid (¬ (isKey key = true ∧ ok (bare l now) = true) → ∀ w', Below w5.heap.size w5 w' → w'.rowIs g 60 4 (four 0 0 0 0) ∧ logE l key now = 1 ∧ logH l key now = ⟨0, 0, 0, 0⟩ ∧ Below w.heap.size w w') := by
    intro hc w' b'
    have h1 : logE l key now = 1 := by rw [HLE.out, if_neg hc]
    exact ⟨HQ4.out.of_block (b'.block _ HQ4.out.lt), h1, by unfold logH; rw [if_neg (by rw [h1]; decide)]; rfl, bt HB4.out b'⟩
  cases hk : isKey key with
  | false =>
    obtain ⟨q0, q1, q2, q3⟩ := HFA.out (by rw [hk]; simp) _ (Below.refl _ _)
    have f0 := q0.frozen 0
    have f1 := q0.frozen 1
    have f2 := q0.frozen 2
    have f3 := q0.frozen 3
    have c0 : w5.cell? ⟨g, 0, none⟩ = some (.int .i64 0) := q0.cell (i := 0) (by omega)
    have c1 : w5.cell? ⟨g, 1, none⟩ = some (.int .i64 0) := q0.cell (i := 1) (by omega)
    have c2 : w5.cell? ⟨g, 2, none⟩ = some (.int .i64 0) := q0.cell (i := 2) (by omega)
    have c3 : w5.cell? ⟨g, 3, none⟩ = some (.int .i64 0) := q0.cell (i := 3) (by omega)
    have HQ : Hid (w5.rowIs g 60 4 (four 0 0 0 0) ∧ logE l key now = 1 ∧ logH l key now = ⟨0, 0, 0, 0⟩ ∧ Below w.heap.size w w5) := ⟨q0, q1, q2, q3⟩
    clear q0 q1 q2 q3 hk
    go_wp2_with fail
    refine bodyPost_ret (ret_log _ rfl (four_put HQ.out.1 0 0 0 0)) rfl ⟨by rw [HQ.out.2.1, HQ.out.2.2.1]; rfl, ?_⟩
    exact (((HQ.out.2.2.2.setCell (by rw [HG.out]; exact Nat.le_refl _) _).setCell (by rw [HG.out]; exact Nat.le_refl _) _).setCell (by rw [HG.out]; exact Nat.le_refl _) _).setCell (by rw [HG.out]; exact Nat.le_refl _) _
  | true =>
    have p0 : w5.cell? ⟨ph, 0, none⟩ = some (.int .i64 (n : Int)) := HP4.out.cell (i := 0) (by omega)
    have p1 : w5.cell? ⟨ph, 1, none⟩ = some (.int .i64 (rootE l)) := HP4.out.cell (i := 1) (by omega)
    have p2 : w5.cell? ⟨ph, 2, none⟩ = some (.int .i64 now) := HP4.out.cell (i := 2) (by omega)
    have p3 : w5.cell? ⟨ph, 3, none⟩ = some (.int .i64 0) := HP4.out.cell (i := 3) (by omega)
    have cH := WalkHeadRef.head_any (bare l now) w5
    rw [HBA.out] at cH
    obtain ⟨E, HE⟩ : ∃ E, Hid (Heads.headE ⟨(n : Int), rootE l, now, 0⟩ = E) := ⟨_, rfl⟩
    rw [HE.out] at cH
    simp only [hv] at cH
    go_wp2_with fail
    refine cH.mono ?_
    rintro e w6 ⟨rfl, b6⟩
    clear cH
    by_cases hE : E = 0
    rotate_left
    · have hno : ok (bare l now) ≠ true := fun q => hE (by rw [← HE.out, ← HBA.out]; exact Heads.headE_zero.2 q)
      obtain ⟨q0, q1, q2, q3⟩ := HFA.out (fun q => hno q.2) _ b6
      have f0 := q0.frozen 0
      have f1 := q0.frozen 1
      have f2 := q0.frozen 2
      have f3 := q0.frozen 3
      have c0 : w6.cell? ⟨g, 0, none⟩ = some (.int .i64 0) := q0.cell (i := 0) (by omega)
      have c1 : w6.cell? ⟨g, 1, none⟩ = some (.int .i64 0) := q0.cell (i := 1) (by omega)
      have c2 : w6.cell? ⟨g, 2, none⟩ = some (.int .i64 0) := q0.cell (i := 2) (by omega)
      have c3 : w6.cell? ⟨g, 3, none⟩ = some (.int .i64 0) := q0.cell (i := 3) (by omega)
      have HQ : Hid (w6.rowIs g 60 4 (four 0 0 0 0) ∧ logE l key now = 1 ∧ logH l key now = ⟨0, 0, 0, 0⟩ ∧ Below w.heap.size w w6) := ⟨q0, q1, q2, q3⟩
      have e5 : ((E : Int) != 0) = true := by simpa using hE
      clear q0 q1 q2 q3 hk hno hE b6 p0 p1 p2 p3
      go_wp2_with fail
      refine bodyPost_ret (ret_log _ rfl (four_put HQ.out.1 0 0 0 0)) rfl ⟨by rw [HQ.out.2.1, HQ.out.2.2.1]; rfl, ?_⟩
      exact (((HQ.out.2.2.2.setCell (by rw [HG.out]; exact Nat.le_refl _) _).setCell (by rw [HG.out]; exact Nat.le_refl _) _).setCell (by rw [HG.out]; exact Nat.le_refl _) _).setCell (by rw [HG.out]; exact Nat.le_refl _) _
    · have hok : ok (bare l now) = true := Heads.headE_zero.1 (by rw [HBA.out, HE.out]; exact hE)
      have hE0 : logE l key now = 0 := by rw [HLE.out, if_pos ⟨hk, hok⟩]
      have HH : Hid (logE l key now = 0 ∧ logH l key now = ⟨(n : Int), rootE l, now, signOf (bare l now) key⟩) := ⟨hE0, by unfold logH; rw [if_pos hE0, hln]⟩
      have cS := fun w' => WalkHeadRef.signed_any (bare l now) key w' hok hk
      obtain ⟨X, HX⟩ : ∃ X, Hid (signOf (bare l now) key = X) := ⟨_, rfl⟩
      rw [HX.out] at cS HH
      rw [HBA.out] at cS
      simp only [hv] at cS
      have P6 := HP4.out.of_block (b6.block _ HP4.out.lt)
      have Q6 := HQ4.out.of_block (b6.block _ HQ4.out.lt)
      have HP6 : Hid (w6.rowIs ph 60 4 (four (n : Int) (rootE l) now 0)) := P6
      have HQ6 : Hid (w6.rowIs g 60 4 (four 0 0 0 0)) := Q6
      have HB6 : Hid (Below w.heap.size w w6) := bt HB4.out b6
      clear P6 Q6 b6 p0 p1 p2 p3 hk hok hE0 HFA
      have p0 : w6.cell? ⟨ph, 0, none⟩ = some (.int .i64 (n : Int)) := HP6.out.cell (i := 0) (by omega)
      have p1 : w6.cell? ⟨ph, 1, none⟩ = some (.int .i64 (rootE l)) := HP6.out.cell (i := 1) (by omega)
      have p2 : w6.cell? ⟨ph, 2, none⟩ = some (.int .i64 now) := HP6.out.cell (i := 2) (by omega)
      have p3 : w6.cell? ⟨ph, 3, none⟩ = some (.int .i64 0) := HP6.out.cell (i := 3) (by omega)
      have e5 : ((E : Int) != 0) = false := by rw [hE]; rfl
      clear hE
      go_wp2_with fail
      refine (cS _).mono ?_
      rintro e w7 ⟨rfl, b7⟩
      clear cS p0 p1 p2 p3
      have P7 := HP6.out.of_block (b7.block _ HP6.out.lt)
      have Q7 := HQ6.out.of_block (b7.block _ HQ6.out.lt)
      have c3 : w7.cell? ⟨ph, 3, none⟩ = some (.int .i64 0) := P7.cell (i := 3) (by omega)
      have f3 := P7.frozen 3
      have gp : ¬ g = ph := by have := HGP.out; omega
      have HP8 : Hid ((w7.setCell ⟨ph, 3, none⟩ (.int .i64 X)).rowIs ph 60 4 (four (n : Int) (rootE l) now X)) := (P7.set 3 (.int .i64 X)).congr fun i hi => (by match i, hi with | 0, _ => rfl | 1, _ => rfl | 2, _ => rfl | 3, _ => rfl)
      have HQ8 : Hid ((w7.setCell ⟨ph, 3, none⟩ (.int .i64 X)).rowIs g 60 4 (four 0 0 0 0)) := Q7.setOther gp _
      have HB8 : Hid (Below w.heap.size w (w7.setCell ⟨ph, 3, none⟩ (.int .i64 X))) := (bt HB6.out b7).setCell HPB.out _
      clear P7 Q7 b7
      go_upto_region 9 with fail
      generalize w7.setCell ⟨ph, 3, none⟩ (.int .i64 X) = w8 at HP8 HQ8 HB8 ⊢
      have p0 : w8.cell? ⟨ph, 0, none⟩ = some (.int .i64 (n : Int)) := HP8.out.cell (i := 0) (by omega)
      have p1 : w8.cell? ⟨ph, 1, none⟩ = some (.int .i64 (rootE l)) := HP8.out.cell (i := 1) (by omega)
      have p2 : w8.cell? ⟨ph, 2, none⟩ = some (.int .i64 now) := HP8.out.cell (i := 2) (by omega)
      have p3 : w8.cell? ⟨ph, 3, none⟩ = some (.int .i64 X) := HP8.out.cell (i := 3) (by omega)
      have z0 := HQ8.out.frozen 0
      have z1 := HQ8.out.frozen 1
      have z2 := HQ8.out.frozen 2
      have z3 := HQ8.out.frozen 3
      have c0 : w8.cell? ⟨g, 0, none⟩ = some (.int .i64 0) := HQ8.out.cell (i := 0) (by omega)
      have c1 : w8.cell? ⟨g, 1, none⟩ = some (.int .i64 0) := HQ8.out.cell (i := 1) (by omega)
      have c2 : w8.cell? ⟨g, 2, none⟩ = some (.int .i64 0) := HQ8.out.cell (i := 2) (by omega)
      have c4 : w8.cell? ⟨g, 3, none⟩ = some (.int .i64 0) := HQ8.out.cell (i := 3) (by omega)
      go_wp2_with fail
      refine bodyPost_ret (ret_log _ rfl (four_put HQ8.out _ _ _ _)) rfl ⟨by rw [HH.out.1, HH.out.2]; rfl, ?_⟩
      exact (((HB8.out.setCell (by rw [HG.out]; exact Nat.le_refl _) _).setCell (by rw [HG.out]; exact Nat.le_refl _) _).setCell (by rw [HG.out]; exact Nat.le_refl _) _).setCell (by rw [HG.out]; exact Nat.le_refl _) _

end Go.Proofs.YtjacioplocmciagGreatDoor.WalkLogRef
