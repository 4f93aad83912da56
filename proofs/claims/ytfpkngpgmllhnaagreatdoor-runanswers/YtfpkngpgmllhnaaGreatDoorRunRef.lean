/-
  Replies of the log, as the walks have them: without their times; what is in a page; seven cells of a reply.
-/
import Derived.Test.YtfpkngpgmllhnaaGreatDoorRuPlain
import Derived.Test.YtfpkngpgmllhnaaGreatDoorListRows
import Derived.Test.YtfpkngpgmllhnaaGreatDoorReplyAll
import Derived.Deep.OwnRows
import Derived.Test.YtfpkngpgmllhnaaGreatDoorDocMir
import Derived.Test.YtfpkngpgmllhnaaGreatDoorRefMir
import Derived.Test.YtfpkngpgmllhnaaGreatDoorRefLog
import Derived.Test.YtfpkngpgmllhnaaGreatDoorGrowRef
import Derived.Test.YtfpkngpgmllhnaaGreatDoorEntRef
import Derived.Test.YtfpkngpgmllhnaaGreatDoorEntRuns
import Derived.Test.YtfpkngpgmllhnaaGreatDoorEntCuts
import Derived.Deep.CutBlock
import Derived.Deep.DeepMust
import Derived.BigQuiet
import Derived.Lib.QuietBelow
import Derived.Test.YtfpkngpgmllhnaaGreatDoorRefNum
import Derived.Test.YtfpkngpgmllhnaaGreatDoorAnsRef
import Derived.Test.YtfpkngpgmllhnaaGreatDoorWalkSpotRef
import Derived.Deep.RegionLaw
import Derived.Test.YtfpkngpgmllhnaaGreatDoorRuEnd
namespace Go.Proofs.YtfpkngpgmllhnaaGreatDoor.RunMix
open Go.RowKit
open EntRows (cells)
open Entries (Entry entsE)
open Runs (Desk replyOf Fine)
open ReplyRows (RFine)

/-- the first k without their times -/
def mix : Nat → List Entry → List Entry
  | 0, l => l
  | _ + 1, [] => []
  | k + 1, e :: l => (0, e.2) :: mix k l
theorem mix_len : ∀ (k : Nat) (l : List Entry), (mix k l).length = l.length
  | 0, _ => rfl
  | _ + 1, [] => rfl
  | k + 1, e :: l => by rw [mix, List.length_cons, mix_len k l, List.length_cons]
theorem mix_full : ∀ (k : Nat) (l : List Entry), l.length ≤ k → mix k l = l.map fun e => (0, e.2)
  | 0, [], _ => rfl
  | 0, _ :: _, h => by simp at h
  | _ + 1, [], _ => rfl
  | k + 1, e :: l, h => by rw [mix, mix_full k l (by simpa using h)]; rfl
theorem mix_next : ∀ (k : Nat) (l : List Entry), k < l.length → (cells (mix k l)).set (k * 2) (.int .i64 0) = cells (mix (k + 1) l)
  | _, [], h => by simp at h
  | 0, e :: l, _ => rfl
  | k + 1, e :: l, h => by
    have := mix_next k l (by simpa using h)
    rw [mix, mix, cells, cells, show (k + 1) * 2 = k * 2 + 1 + 1 by omega, List.set_cons_succ, List.set_cons_succ, this]
theorem mix_at : ∀ (k : Nat) (l : List Entry), k < l.length → ∃ t, (cells (mix k l))[k * 2]? = some (.int .i64 t)
  | _, [], h => by simp at h
  | 0, e :: l, _ => ⟨_, rfl⟩
  | k + 1, e :: l, h => by
    obtain ⟨t, ht⟩ := mix_at k l (by simpa using h)
    refine ⟨t, ?_⟩
    rw [mix, cells, show (k + 1) * 2 = k * 2 + 1 + 1 by omega]
    exact ht

/-- each text in the log is short -/
theorem sized {l : List Entry} (h : entsE l = 0) : ∀ e ∈ l, e.2.size ≤ maxLen := fun e he => by
  have := (Entries.ent_ok ((Entries.ents_ok h).2 e he)).2.2
  unfold maxLen
  omega
/-- what is wanted is small -/
theorem want_bd {key : Int} {m : Mirrors.Mir} (h : Mirrors.Ok key m) : (0 ≤ m.want.what ∧ m.want.what ≤ 3) ∧ (0 ≤ m.want.fr ∧ m.want.fr ≤ 200) ∧ (0 ≤ m.want.to_ ∧ m.want.to_ ≤ 200) ∧ m.want.fr ≤ m.want.to_ := by
  unfold Mirrors.Mir.want
  by_cases h0 : m.next.size = 0
  · rw [if_pos h0]
    simp
  · rw [if_neg h0]
    obtain ⟨h1, h2, h3, _⟩ := h.some h0
    obtain ⟨h4, h5⟩ := Mirrors.size_ok h1
    by_cases h6 : (m.has : Int) = m.next.size
    · rw [if_pos h6]
      have : (m.own.length : Int) ≤ m.has := by show (m.own.length : Int) ≤ ((m.own.length + m.waits.length : Nat) : Int); omega
      simp only
      omega
    · rw [if_neg h6]
      simp only
      split <;> omega

theorem page_len {d : Desk} (hf : Fine d) (h2 : d.mir.want.what = 2) : ∃ fr to_ : Nat, d.mir.want.fr = (fr : Int) ∧ d.mir.want.to_ = (to_ : Int) ∧ fr < to_ ∧ to_ ≤ d.log.length := by
  obtain ⟨_, ⟨q0, _⟩, ⟨r0, _⟩, h⟩ := want_bd hf.mir
  obtain ⟨h6, h7, h8, h5⟩ := Mirrors.want_two h2
  have := hf.next
  have h9 := (hf.mir.some h6).2.2.1
  refine ⟨d.mir.want.fr.toNat, d.mir.want.to_.toNat, by omega, by omega, ?_, ?_⟩
  · have : d.mir.want.fr < d.mir.want.to_ := by rw [h5, h8]; split <;> omega
    omega
  have : d.mir.want.to_ ≤ d.mir.next.size := by rw [h5]; split <;> omega
  omega
theorem row_seven {w : World} {g : Nat} {t : TypeId} {f : Nat → Value} (h : w.rowIs g t 7 f) : w.heap[g]? = some (.cells #[f 0, f 1, f 2, f 3, f 4, f 5, f 6] t (0, 0)) := by
  obtain ⟨c, hb, hn, hc⟩ := h
  have : c = #[f 0, f 1, f 2, f 3, f 4, f 5, f 6] := by
    apply Array.ext_getElem?
    intro i
    match i with
    | 0 => rw [hc 0 (by omega)]; rfl
    | 1 => rw [hc 1 (by omega)]; rfl
    | 2 => rw [hc 2 (by omega)]; rfl
    | 3 => rw [hc 3 (by omega)]; rfl
    | 4 => rw [hc 4 (by omega)]; rfl
    | 5 => rw [hc 5 (by omega)]; rfl
    | 6 => rw [hc 6 (by omega)]; rfl
    | i + 7 => rw [Array.getElem?_eq_none (by omega), Array.getElem?_eq_none (by simp)]
  rw [hb, this]
theorem spoil_len : ∀ p : List Int, (Runs.spoilP p).length ≤ p.length + 1
  | [] => by decide
  | _ :: p => by show (0 :: p).length ≤ _; rw [List.length_cons, List.length_cons]; omega
/-- a reply of the log is one that can be heard -/
theorem reply_fine {d : Desk} (hf : Fine d) (bad : Bool) : RFine (replyOf d bad) := by
  have hl := Runs.few hf
  have hz := sized hf.log
  have hp : ∀ e ∈ Runs.pageOf d, e.2.size ≤ maxLen := fun e he => hz e (List.mem_of_mem_take (List.mem_of_mem_drop he))
  have hpl : (Runs.pageOf d).length ≤ 200 := by unfold Runs.pageOf; rw [List.length_drop, List.length_take]; omega
  unfold Runs.replyOf
  split
  · exact ⟨Nat.zero_le _, Nat.zero_le _, fun e he => by cases he⟩
  · rename_i h1
    split
    · refine ⟨?_, Nat.zero_le _, ?_⟩
      · cases bad with
        | true => show ((Runs.pageOf d).map _).length ≤ _; rw [List.length_map]; omega
        | false => show (Runs.pageOf d).length ≤ _; omega
      · cases bad with
        | true =>
          intro e he
          obtain ⟨x, hx, rfl⟩ := List.mem_map.1 (show e ∈ (Runs.pageOf d).map _ from he)
          exact hp x hx
        | false => exact hp
    · rename_i h2
      have := RunLess.proof_le hf h1 h2
      refine ⟨Nat.zero_le _, ?_, fun e he => by cases he⟩
      cases bad with
      | true => show (Runs.spoilP (Runs.proofOf d)).length ≤ _; have := spoil_len (Runs.proofOf d); omega
      | false => show (Runs.proofOf d).length ≤ _; omega

end Go.Proofs.YtfpkngpgmllhnaaGreatDoor.RunMix

/-
  The document's own desk: its mirror hears what it wants, perhaps told wrong.
-/
set_option maxRecDepth 100000
namespace Go.Proofs.YtfpkngpgmllhnaaGreatDoor.WalkStepRef
open Go.RowKit
open Keeps (Kept owns_kept owns_row owns_open owns_set)
open Wides (Wide owns_wide)
open Lists (Row ints bt)
open EntRows (cells)
open Entries (Entry entsE leafsOf)
open Heads (Head)
open MirDoc (Lay foot)
open Runs (Desk replyOf proofOf pageOf Fine stepE stepD)
open RunDoc (Dk two dk_mir)
open RunMix (mix sized reply_fine page_len row_seven)
open MirVals (wv rv aggR sizeR aggW sizeW cell7)
open HeadVals (hv aggH sizeH)
open Mirrors (Mir Want Reply)
open Answers (logE logH)

/-- what a step leaves -/
def Did (w w' : World) (B b : Nat) (F : Nat → Prop) (d' : Desk) : Prop := (∃ F', Dk w' B b F' d' ∧ ∀ k, F' k → F k ∨ w.heap.size ≤ k) ∧ Kept F w w'

/-- the mirror hears a reply that lies in memory of the call's own -/
theorem heard {w w2 : World} {B b bm : Nat} {F : Nat → Prop} {d : Desk} {v v1 v2 : Value} (h1 : w.rowIs b 33 2 (two v (.pointer (some ⟨bm, 0, none⟩)))) (h2 : w.ownsRow B 65 2 v d.log.length (cells d.log)) (h3 : Lay w B bm 7 d.mir v1 v2) (h4 : v.ownBlock ≠ some b) (h5 : ∀ k, foot bm v1 v2 k → k ≠ b ∧ v.ownBlock ≠ some k) (h6 : ∀ k, F k ↔ k = b ∨ v.ownBlock = some k ∨ foot bm v1 v2 k) (hB : B ≤ b) (hf : Fine d) (q : Below w.heap.size w w2) (bad : Bool) {a5 a6 : Option Addr} {c5 c6 : Nat} (hw5 : Wide 2 w2 a5 (replyOf d bad).ents.length c5 (cells (replyOf d bad).ents)) (hw6 : Row w2 a6 (replyOf d bad).proof.length c6 (ints (replyOf d bad).proof)) :
    Calls Tryz.prog 41 #[.pointer (some ⟨bm, 0, none⟩), rv (replyOf d bad) a5 c5 a6 c6] w2 fun e w' => e = .returned (.int .i64 (stepE d bad : Nat)) ∧ Did w w' B b F (stepD d bad) := by
  refine (WalkMirHear.hear_any (h3.below q) hf.mir (replyOf d bad) (reply_fine hf bad) a5 c5 a6 c6 hw5 hw6).mono ?_
  rintro e w' ⟨rfl, x1, x2, l, k, f⟩
  refine ⟨rfl, ?_⟩
  have k0 : Kept (foot bm v1 v2) w w' := (Kept.of_below _ q).trans k fun i hi => .inl hi
  obtain ⟨F', s1, s2⟩ := dk_mir h1 h2 h4 h5 hB k0 l (fun i hi => (f i hi).imp id fun z => Nat.le_trans q.size z)
  exact ⟨⟨F', s1, fun i hi => (s2 i hi).imp (h6 i).2 id⟩, k0.mono fun i hi => (h6 i).2 (.inr (.inr hi))⟩

/-- the end of a step: the reply lies in block g -/
theorem fin_cells {w4 : World} {g : Nat} {x : Int} {h0 h1 h2 h3 : Int} {v5 v6 : Value} (r4 : w4.rowIs g 87 7 (cell7 x h0 h1 h2 h3 v5 v6)) :
    w4.cell? ⟨g, 0, none⟩ = some (.int .i64 x) ∧ w4.cell? ⟨g, 1, none⟩ = some (.int .i64 h0) ∧ w4.cell? ⟨g, 2, none⟩ = some (.int .i64 h1) ∧ w4.cell? ⟨g, 3, none⟩ = some (.int .i64 h2) ∧ w4.cell? ⟨g, 4, none⟩ = some (.int .i64 h3) ∧ w4.cell? ⟨g, 5, none⟩ = some v5 ∧ w4.cell? ⟨g, 6, none⟩ = some v6 :=
  ⟨r4.cell (i := 0) (by omega), r4.cell (i := 1) (by omega), r4.cell (i := 2) (by omega), r4.cell (i := 3) (by omega), r4.cell (i := 4) (by omega), r4.cell (i := 5) (by omega), r4.cell (i := 6) (by omega)⟩

set_option maxHeartbeats 16000000 in
theorem step_any {w : World} {B b : Nat} {F : Nat → Prop} {d : Desk} (h : Dk w B b F d) (hf : Fine d) (bad : Bool) :
    Calls Tryz.prog 18 #[.pointer (some ⟨b, 0, none⟩), .bool bad] w fun e w' => e = .returned (.int .i64 (stepE d bad : Nat)) ∧ Did w w' B b F (stepD d bad) := by
  have aW := aggW
  have zW := sizeW
  have aR := aggR
  have zR := sizeR
  have aH := aggH
  have zH := sizeH
  have hab := h.above
  obtain ⟨bm, v, v1, v2, h1, h2, h3, h4, h5, h6⟩ := h.core
  have HF : Hid (Fine d) := hf
  have hwl : d.mir.waits.length ≤ 200 := by
    by_cases hz : d.mir.next.size = 0
    · rw [(hf.mir.none hz).2]; simp
    · have q1 := (hf.mir.some hz).2.2.1
      have q2 := (Mirrors.size_ok (hf.mir.some hz).1).2
      have q3 : (d.mir.has : Int) = ((d.mir.own.length + d.mir.waits.length : Nat) : Int) := rfl
      omega
  have cW := WalkMirRef.want_any h3 hf.mir.few hwl
  have c1 : w.cell? ⟨b, 1, none⟩ = some (.pointer (some ⟨bm, 0, none⟩)) := h1.cell (i := 1) (by omega)
  obtain ⟨av, cv, rfl, hwv⟩ := owns_wide h2
  have HC : Hid (∀ w', Below w.heap.size w w' → w'.cell? ⟨b, 0, none⟩ = some (.slice av d.log.length cv) ∧ w'.cell? ⟨b, 1, none⟩ = some (.pointer (some ⟨bm, 0, none⟩)) ∧ Wide 2 w' av d.log.length cv (cells d.log)) := fun w' q => ⟨Lists.cell_below q (h1.cell (i := 0) (by omega)), Lists.cell_below q c1, hwv.below q⟩
  have HHear : Hid (∀ w2, Below w.heap.size w w2 → ∀ a5 c5 a6 c6, Wide 2 w2 a5 (replyOf d bad).ents.length c5 (cells (replyOf d bad).ents) → Row w2 a6 (replyOf d bad).proof.length c6 (ints (replyOf d bad).proof) → Calls Tryz.prog 41 #[.pointer (some ⟨bm, 0, none⟩), rv (replyOf d bad) a5 c5 a6 c6] w2 fun e w' => e = .returned (.int .i64 (stepE d bad : Nat)) ∧ Did w w' B b F (stepD d bad)) := fun w2 q a5 c5 a6 c6 g5 g6 => heard h1 h2 h3 h4 h5 h6 hab hf q bad g5 g6
  unfold wv at cW
  obtain ⟨Wx, hWx⟩ : ∃ x, x = d.mir.want := ⟨_, rfl⟩
  rw [← hWx] at cW
  have HW : Hid (Wx = d.mir.want) := hWx
  obtain ⟨X, Y, Z⟩ := Wx
  simp only at cW
  have hbl := h1.lt
  have hll := Runs.few hf
  generalize hE : stepE d bad = E at HHear
  have HE : Hid (stepE d bad = E) := hE
  generalize hD : stepD d bad = D at HHear
  have HDq : Hid (stepD d bad = D) := hD
  clear h h1 h2 h3 h4 h5 h6 hf hWx hwl hwv hE hD
  go_enter Tryz.func18, Tryz.ntmps18
  go_wp2_with fail
  refine cW.mono ?_
  rintro e w1 ⟨rfl, b1⟩
  clear cW c1
  have HB1 : Hid (Below w.heap.size w w1) := b1
  clear b1
  go_upto_region 3 with fail
  have hs2 : ((w1.alloc (.cells #[.int .i64 X, .int .i64 Y, .int .i64 Z] 58)).alloc (.cells #[.int .i64 X, .int .i64 0, .int .i64 0, .int .i64 0, .int .i64 0, .slice none 0 0, .slice none 0 0] 87)).heap.size = w1.heap.size + 2 := by simp
  have k0 : ((w1.alloc (.cells #[.int .i64 X, .int .i64 Y, .int .i64 Z] 58)).alloc (.cells #[.int .i64 X, .int .i64 0, .int .i64 0, .int .i64 0, .int .i64 0, .slice none 0 0, .slice none 0 0] 87)).cell? ⟨w1.heap.size, 0, none⟩ = some (.int .i64 X) := by rw [World.cell?_alloc_lt _ _ ⟨w1.heap.size, 0, none⟩ (by simp)]; simp
  have k1 : ((w1.alloc (.cells #[.int .i64 X, .int .i64 Y, .int .i64 Z] 58)).alloc (.cells #[.int .i64 X, .int .i64 0, .int .i64 0, .int .i64 0, .int .i64 0, .slice none 0 0, .slice none 0 0] 87)).cell? ⟨w1.heap.size, 1, none⟩ = some (.int .i64 Y) := by rw [World.cell?_alloc_lt _ _ ⟨w1.heap.size, 1, none⟩ (by simp)]; simp
  have k2 : ((w1.alloc (.cells #[.int .i64 X, .int .i64 Y, .int .i64 Z] 58)).alloc (.cells #[.int .i64 X, .int .i64 0, .int .i64 0, .int .i64 0, .int .i64 0, .slice none 0 0, .slice none 0 0] 87)).cell? ⟨w1.heap.size, 2, none⟩ = some (.int .i64 Z) := by rw [World.cell?_alloc_lt _ _ ⟨w1.heap.size, 2, none⟩ (by simp)]; simp
  have r2 : ((w1.alloc (.cells #[.int .i64 X, .int .i64 Y, .int .i64 Z] 58)).alloc (.cells #[.int .i64 X, .int .i64 0, .int .i64 0, .int .i64 0, .int .i64 0, .slice none 0 0, .slice none 0 0] 87)).rowIs (w1.heap.size + 1) 87 7 (cell7 X 0 0 0 0 (.slice none 0 0) (.slice none 0 0)) := by
    have := World.rowIs_alloc (w1.alloc (.cells #[.int .i64 X, .int .i64 Y, .int .i64 Z] 58)) #[.int .i64 X, .int .i64 0, .int .i64 0, .int .i64 0, .int .i64 0, .slice none 0 0, .slice none 0 0] 87 (cell7 X 0 0 0 0 (.slice none 0 0) (.slice none 0 0)) (by intro i hi; match i, hi with | 0, _ => rfl | 1, _ => rfl | 2, _ => rfl | 3, _ => rfl | 4, _ => rfl | 5, _ => rfl | 6, _ => rfl)
    rw [World.size_alloc] at this
    exact this
  have HB2 : Hid (Below w.heap.size w ((w1.alloc (.cells #[.int .i64 X, .int .i64 Y, .int .i64 Z] 58)).alloc (.cells #[.int .i64 X, .int .i64 0, .int .i64 0, .int .i64 0, .int .i64 0, .slice none 0 0, .slice none 0 0] 87))) := bt HB1.out (((Below.refl _ _).alloc (Nat.le_refl _) _).alloc (by simp) _)
  have hw1 : w.heap.size ≤ w1.heap.size := HB1.out.size
  generalize ((w1.alloc (.cells #[.int .i64 X, .int .i64 Y, .int .i64 Z] 58)).alloc (.cells #[.int .i64 X, .int .i64 0, .int .i64 0, .int .i64 0, .int .i64 0, .slice none 0 0, .slice none 0 0] 87)) = w2 at hs2 k0 k1 k2 r2 HB2 ⊢
  clear HB1
  generalize w1.heap.size = q at hs2 k0 k1 k2 r2 hw1 ⊢
  have HR : Hid (w2.rowIs (q + 1) 87 7 (cell7 X 0 0 0 0 (.slice none 0 0) (.slice none 0 0)) ∧ w.heap.size ≤ q + 1 ∧ q + 1 < w2.heap.size) := ⟨r2, by omega, by omega⟩
  obtain ⟨c0, c1, hw⟩ := HC.out _ HB2.out
  clear r2
  have FIN : Hid (∀ (w4 : World) (x h0 h1 h2 h3 : Int) (a5 : Option Addr) (n5 c5 : Nat) (a6 : Option Addr) (n6 c6 : Nat), Below w.heap.size w w4 → w4.rowIs (q + 1) 87 7 (cell7 x h0 h1 h2 h3 (.slice a5 n5 c5) (.slice a6 n6 c6)) → (∃ l p, replyOf d bad = ⟨x, ⟨h0, h1, h2, h3⟩, l, p⟩ ∧ l.length = n5 ∧ p.length = n6 ∧ Wide 2 w4 a5 n5 c5 (cells l) ∧ Row w4 a6 n6 c6 (ints p)) →
      w4.cell? ⟨b, 1, none⟩ = some (.pointer (some ⟨bm, 0, none⟩)) ∧ Hid (Calls Tryz.prog 41 #[.pointer (some ⟨bm, 0, none⟩), .agg #[.int .i64 x, .int .i64 h0, .int .i64 h1, .int .i64 h2, .int .i64 h3, .slice a5 n5 c5, .slice a6 n6 c6]] w4.drew fun e w' => e = .returned (.int .i64 (E : Nat)) ∧ Did w w' B b F D)) := by
    intro w4 x h0 h1 h2 h3 a5 n5 c5 a6 n6 c6 hb hr ⟨l, p, e, hl, hp, g5, g6⟩
    refine ⟨(HC.out w4 hb).2.1, ?_⟩
    have := HHear.out w4.drew (bt hb (Below.refl _ _).drew) a5 c5 a6 c6 (by rw [e]; simp only; rw [hl]; exact g5.below (Below.refl _ _).drew) (by rw [e]; simp only; rw [hp]; exact g6.below (Below.refl _ _).drew)
    rw [e] at this
    unfold rv at this
    simp only at this
    rw [hl, hp] at this
    exact this
  clear HHear HC
  by_cases hx1 : X = 1
  · subst hx1
    have cH := WalkLogRef.log_any d.log av d.log.length cv 7 0 w2 hw (sized HF.out.log)
    rw [show WalkLogRef.logE d.log 7 0 = logE d.log 7 0 from rfl, show WalkLogRef.logH d.log 7 0 = logH d.log 7 0 from rfl, Runs.log_fine HF.out] at cH
    have HV : Hid (replyOf d bad = ⟨1, if bad = true then Runs.spoilH (logH d.log 7 0) else logH d.log 7 0, [], []⟩) := by
      show _ = _
      unfold Runs.replyOf
      rw [← HW.out]
      rfl
    have hrt : 0 ≤ (logH d.log 7 0).root ∧ (logH d.log 7 0).root < 2 ^ 62 := by
      have hr := Nums.valid_iff.1 (Serves.root_valid d.log)
      unfold Answers.logH
      split
      · exact ⟨hr.1, by have := hr.2; show Mirrors.rootE d.log < _; omega⟩
      · decide
    generalize logH d.log 7 0 = H at cH HV hrt
    obtain ⟨h0, h1, h2, h3⟩ := H
    unfold hv at cH
    simp only at cH hrt
    generalize d.log.length = N at c0 cH
    clear hw HW HF hll
    go_wp2_with fail
    refine cH.mono ?_
    rintro e w3 ⟨rfl, b3⟩
    obtain ⟨r2, hqw, hq2⟩ := HR.out
    have r3 := r2.of_block (b3.block _ hq2)
    have HB3 : Hid (Below w.heap.size w w3) := bt HB2.out b3
    have hq3 : q + 1 < w3.heap.size := r3.lt
    clear cH b3 k1 k2 c0 c1 r2
    have e0 : (((0 : Nat) : Int) != 0) = false := rfl
    go_upto_region 8 with fail
    have bA : Below w3.heap.size w3 (w3.alloc (.cells #[.int .i64 h0, .int .i64 h1, .int .i64 h2, .int .i64 h3] 29)) := (Below.refl _ _).alloc (Nat.le_refl _) _
    have rA := r3.of_block (bA.block _ hq3)
    have z0 : (w3.alloc (.cells #[.int .i64 h0, .int .i64 h1, .int .i64 h2, .int .i64 h3] 29)).cell? ⟨w3.heap.size, 0, none⟩ = some (.int .i64 h0) := by simp
    have z1 : (w3.alloc (.cells #[.int .i64 h0, .int .i64 h1, .int .i64 h2, .int .i64 h3] 29)).cell? ⟨w3.heap.size, 1, none⟩ = some (.int .i64 h1) := by simp
    have z2 : (w3.alloc (.cells #[.int .i64 h0, .int .i64 h1, .int .i64 h2, .int .i64 h3] 29)).cell? ⟨w3.heap.size, 2, none⟩ = some (.int .i64 h2) := by simp
    have z3 : (w3.alloc (.cells #[.int .i64 h0, .int .i64 h1, .int .i64 h2, .int .i64 h3] 29)).cell? ⟨w3.heap.size, 3, none⟩ = some (.int .i64 h3) := by simp
    have HBA : Hid (Below w.heap.size w (w3.alloc (.cells #[.int .i64 h0, .int .i64 h1, .int .i64 h2, .int .i64 h3] 29))) := HB3.out.trans (bA.mono HB3.out.size)
    generalize w3.alloc (.cells #[.int .i64 h0, .int .i64 h1, .int .i64 h2, .int .i64 h3] 29) = wA at bA rA z0 z1 z2 z3 HBA ⊢
    obtain ⟨-, y1, y2, y3, y4, -, -⟩ := fin_cells rA
    have yf := rA.frozen
    have r5 : ((((wA.setCell ⟨q + 1, 1, none⟩ (.int .i64 h0)).setCell ⟨q + 1, 2, none⟩ (.int .i64 h1)).setCell ⟨q + 1, 3, none⟩ (.int .i64 h2)).setCell ⟨q + 1, 4, none⟩ (.int .i64 h3)).rowIs (q + 1) 87 7 (cell7 1 h0 h1 h2 h3 (.slice none 0 0) (.slice none 0 0)) := ((((rA.set 1 _).set 2 _).set 3 _).set 4 _).congr fun i hi => by match i, hi with | 0, _ => rfl | 1, _ => rfl | 2, _ => rfl | 3, _ => rfl | 4, _ => rfl | 5, _ => rfl | 6, _ => rfl
    have HBx : Hid (Below w.heap.size w ((((wA.setCell ⟨q + 1, 1, none⟩ (.int .i64 h0)).setCell ⟨q + 1, 2, none⟩ (.int .i64 h1)).setCell ⟨q + 1, 3, none⟩ (.int .i64 h2)).setCell ⟨q + 1, 4, none⟩ (.int .i64 h3))) := (((HBA.out.setCell hqw _).setCell hqw _).setCell hqw _).setCell hqw _
    clear r3
    go_upto_region 9 with fail
    clear bA rA z0 z1 z2 z3 y1 y2 y3 y4 yf
    generalize ((((wA.setCell ⟨q + 1, 1, none⟩ (.int .i64 h0)).setCell ⟨q + 1, 2, none⟩ (.int .i64 h1)).setCell ⟨q + 1, 3, none⟩ (.int .i64 h2)).setCell ⟨q + 1, 4, none⟩ (.int .i64 h3)) = w5 at r5 HBx ⊢
    clear HB3 HB2 HR hq2 hq3 HBA
    cases bad with
    | false =>
      have HV2 : Hid (replyOf d false = ⟨1, ⟨h0, h1, h2, h3⟩, [], []⟩) := by
        show _ = _
        rw [HV.out]
        simp
      obtain ⟨c13, HH⟩ := FIN.out w5 1 h0 h1 h2 h3 none 0 0 none 0 0 HBx.out r5 ⟨[], [], HV2.out, rfl, rfl, Wide.nil _ _ _ _, Row.nil _ _ _⟩
      obtain ⟨m0, m1, m2, m3, m4, m5, m6⟩ := fin_cells r5
      clear FIN r5 
      go_upto_region 25 with fail
      refine wp_region_still_tail 5 (by kernel_rfl) (by kernel_rfl) ?_
      rw [show ({ w5 with drawn := w5.drawn + 1 } : World) = w5.drew from rfl]
      simp only [List.take_succ_cons, List.take_zero, List.drop_succ_cons, List.drop_zero]
      repeat still_step
      refine wpStill_nil ?_
      go_wp2_with fail
      refine HH.out.mono ?_
      rintro e w9 ⟨rfl, hd9⟩
      have HD9 : Hid (Did w w9 B b F D) := hd9
      clear HH hd9 m0 m1 m2 m3 m4 m5 m6 c13
      go_wp2_with fail
      go_ret
      exact ⟨rfl, HD9.out⟩
    | true =>
      have p2 := (fin_cells r5).2.2.1
      have pf := r5.frozen
      have w1x : IntKind.i64.wrap (h1 - 1) = h1 - 1 := by rw [IntKind.wrap_i64]; omega
      have r6 : (w5.setCell ⟨q + 1, 2, none⟩ (.int .i64 (h1 - 1))).rowIs (q + 1) 87 7 (cell7 1 h0 (h1 - 1) h2 h3 (.slice none 0 0) (.slice none 0 0)) := (r5.set 2 _).congr fun i hi => by match i, hi with | 0, _ => rfl | 1, _ => rfl | 2, _ => rfl | 3, _ => rfl | 4, _ => rfl | 5, _ => rfl | 6, _ => rfl
      have HB6 : Hid (Below w.heap.size w (w5.setCell ⟨q + 1, 2, none⟩ (.int .i64 (h1 - 1)))) := HBx.out.setCell hqw _
      clear r5
      go_upto_region 11 with fail
      generalize w5.setCell ⟨q + 1, 2, none⟩ (.int .i64 (h1 - 1)) = w6 at r6 HB6 ⊢
      clear p2 pf HBx w1x
      have p2 := (fin_cells r6).2.2.1
      have pf := r6.frozen
      by_cases hn : h1 - 1 < 0
      · have HV2 : Hid (replyOf d true = ⟨1, ⟨h0, 1, h2, h3⟩, [], []⟩) := by
          show _ = _
          rw [HV.out]
          simp only [if_true]
          unfold Runs.spoilH
          simp only
          rw [if_pos hn]
        have r5 : (w6.setCell ⟨q + 1, 2, none⟩ (.int .i64 1)).rowIs (q + 1) 87 7 (cell7 1 h0 1 h2 h3 (.slice none 0 0) (.slice none 0 0)) := (r6.set 2 _).congr fun i hi => by match i, hi with | 0, _ => rfl | 1, _ => rfl | 2, _ => rfl | 3, _ => rfl | 4, _ => rfl | 5, _ => rfl | 6, _ => rfl
        have HBx : Hid (Below w.heap.size w (w6.setCell ⟨q + 1, 2, none⟩ (.int .i64 1))) := HB6.out.setCell hqw _
        clear r6
        go_upto_region 25 with fail
        clear p2 pf
        generalize w6.setCell ⟨q + 1, 2, none⟩ (.int .i64 1) = w7 at r5 HBx ⊢
        obtain ⟨c13, HH⟩ := FIN.out w7 1 h0 1 h2 h3 none 0 0 none 0 0 HBx.out r5 ⟨[], [], HV2.out, rfl, rfl, Wide.nil _ _ _ _, Row.nil _ _ _⟩
        obtain ⟨m0, m1, m2, m3, m4, m5, m6⟩ := fin_cells r5
        clear FIN r5 
        refine wp_region_still_tail 5 (by kernel_rfl) (by kernel_rfl) ?_
        rw [show ({ w7 with drawn := w7.drawn + 1 } : World) = w7.drew from rfl]
        simp only [List.take_succ_cons, List.take_zero, List.drop_succ_cons, List.drop_zero]
        repeat still_step
        refine wpStill_nil ?_
        go_wp2_with fail
        refine HH.out.mono ?_
        rintro e w9 ⟨rfl, hd9⟩
        have HD9 : Hid (Did w w9 B b F D) := hd9
        clear HH hd9 m0 m1 m2 m3 m4 m5 m6 c13
        go_wp2_with fail
        go_ret
        exact ⟨rfl, HD9.out⟩
      · have HV2 : Hid (replyOf d true = ⟨1, ⟨h0, h1 - 1, h2, h3⟩, [], []⟩) := by
          show _ = _
          rw [HV.out]
          simp only [if_true]
          unfold Runs.spoilH
          simp only
          rw [if_neg hn]
        have HBx : Hid (Below w.heap.size w w6) := HB6.out
        clear p2 pf
        have p2 := (fin_cells r6).2.2.1
        go_upto_region 25 with fail
        obtain ⟨c13, HH⟩ := FIN.out w6 1 h0 (h1 - 1) h2 h3 none 0 0 none 0 0 HBx.out r6 ⟨[], [], HV2.out, rfl, rfl, Wide.nil _ _ _ _, Row.nil _ _ _⟩
        obtain ⟨m0, m1, m2, m3, m4, m5, m6⟩ := fin_cells r6
        clear FIN r6 
        refine wp_region_still_tail 5 (by kernel_rfl) (by kernel_rfl) ?_
        rw [show ({ w6 with drawn := w6.drawn + 1 } : World) = w6.drew from rfl]
        simp only [List.take_succ_cons, List.take_zero, List.drop_succ_cons, List.drop_zero]
        repeat still_step
        refine wpStill_nil ?_
        go_wp2_with fail
        refine HH.out.mono ?_
        rintro e w9 ⟨rfl, hd9⟩
        have HD9 : Hid (Did w w9 B b F D) := hd9
        clear HH hd9 m0 m1 m2 m3 m4 m5 m6 c13
        go_wp2_with fail
        go_ret
        exact ⟨rfl, HD9.out⟩
  · by_cases hx2 : X = 2
    · subst hx2
      obtain ⟨fr, to_, e1, e2, h12, h2n⟩ := page_len HF.out (by rw [← HW.out])
      rw [← HW.out] at e1 e2
      simp only at e1 e2
      subst e1 e2
      have HV : Hid (replyOf d bad = ⟨2, Heads.zero, if bad = true then ((d.log.take to_).drop fr).map (fun e => (0, e.2)) else (d.log.take to_).drop fr, []⟩) := by
        show _ = _
        unfold Runs.replyOf Runs.pageOf
        rw [← HW.out]
        simp only [Int.toNat_natCast]
        rfl
      obtain ⟨ga, oa, rfl, _⟩ := hw.2.2 (by omega)
      have hCut := EntCuts.cut hw fr to_ (by omega) h2n
      have hcap : d.log.length ≤ cv := hw.2.1
      have hlp : ((d.log.take to_).drop fr).length = to_ - fr := by rw [List.length_drop, List.length_take]; omega
      have HLp : Hid (((d.log.take to_).drop fr).length = to_ - fr) := hlp
      have HRp : Hid (((d.log.take to_).drop fr).length ≤ 200) := by show _ ≤ _; omega
      generalize (d.log.take to_).drop fr = P at HV hCut HLp HRp
      have hCut2 : Wide 2 w2.drew (some ⟨ga, oa + fr * 2, none⟩) (to_ - fr) (cv - fr) (cells P) := hCut.below (Below.refl _ _).drew
      obtain ⟨vn, wn, rn, on, kn, fn⟩ := WalkMirRef.run_some w2.drew w.heap.size (.slice none 0 0) [] (World.ownsRow_nil _ _ _ _) ⟨ga, oa + fr * 2, none⟩ (to_ - fr) (cv - fr) P hCut2 (by omega) (by simp only [List.length_nil]; omega) (by have := HB2.out.size; show _ ≤ w2.heap.size; exact this)
      rw [List.nil_append] at on
      have bn : Below w2.heap.size w2 wn := (Below.refl _ w2).drew.trans (kn.below (B := w2.heap.size) (fun k hk => by simp [Value.ownBlock] at hk) (Nat.le_refl _))
      obtain ⟨r2, hqw, hq2⟩ := HR.out
      have m5 := (fin_cells r2).2.2.2.2.2.1
      have rn2 := r2.of_block (bn.block _ hq2)
      have m5n := (fin_cells rn2).2.2.2.2.2.1
      have f5n := rn2.frozen 5
      have hfnew : ∀ k, vn.ownBlock = some k → w2.heap.size ≤ k := fun k hk => by
        rcases fn k hk with z | z
        · simp [Value.ownBlock] at z
        · rw [z]; exact Nat.le_refl _
      have hPn : P.length = to_ - fr := HLp.out
      obtain ⟨N5, hN5⟩ : ∃ N5, N5 = P.length := ⟨_, rfl⟩
      rw [← hN5] at on
      clear hPn
      obtain ⟨a5, c5, rfl, _⟩ := owns_wide on
      have k5 : Kept (fun k => k = q + 1) wn (wn.setCell ⟨q + 1, 5, none⟩ (.slice a5 N5 c5)) := (Kept.refl (fun k => k = q + 1) wn).setCell (.inl rfl) _
      have o5 := owns_kept on k5 fun i hi z => by have := hfnew i hi; omega
      have r5 : (wn.setCell ⟨q + 1, 5, none⟩ (.slice a5 N5 c5)).rowIs (q + 1) 87 7 (cell7 2 0 0 0 0 (.slice a5 N5 c5) (.slice none 0 0)) := (rn2.set 5 _).congr fun i hi => by match i, hi with | 0, _ => rfl | 1, _ => rfl | 2, _ => rfl | 3, _ => rfl | 4, _ => rfl | 5, _ => rfl | 6, _ => rfl
      have HB5 : Hid (Below w.heap.size w (wn.setCell ⟨q + 1, 5, none⟩ (.slice a5 N5 c5))) := (bt HB2.out bn).setCell hqw _
      have HPN : Hid (P.length = N5) := hN5.symm
      have hfn : ∀ k, (Value.slice a5 N5 c5).ownBlock = some k → w.heap.size ≤ k ∧ k ≠ q + 1 := fun k hk => ⟨Nat.le_trans HB2.out.size (hfnew k hk), fun z => by have := hfnew k hk; omega⟩
      clear on kn fn bn rn2 k5 hfnew hN5 hCut hCut2 r2 hlp HLp
      generalize d.log.length = N at c0 h2n hcap hll
      have j1 : (fr : Int) ≤ (to_ : Int) := by omega
      have j2 : (to_ : Int) ≤ (cv : Int) := by omega
      have j3 : (fr : Int) ≤ (cv : Int) := by omega
      have hne : ¬ cv = fr := by omega
      have zE : ∀ w' : World, (sizeOf 65).run Tryz.prog w' = .ok 2 w' := fun w' => by kernel_rfl
      have aE : ∀ w' : World, (isAgg 65).run Tryz.prog w' = .ok true w' := fun w' => by kernel_rfl
      clear hw HW HF
      go_upto_region 14 with fail
      refine wp_region_still_tail 11 (by kernel_rfl) (by kernel_rfl) ?_
      rw [show ({ w2 with drawn := w2.drawn + 1 } : World) = w2.drew from rfl]
      simp only [List.take_succ_cons, List.take_zero, List.drop_succ_cons, List.drop_zero]
      repeat still_step
      refine wpStill_nil ?_
      refine Lib.wpList_append_run w2.drew rfl (.tmp 51) (.tmp 60) 27 27 rfl (.slice none 0 0) (.slice (some ⟨ga, oa + fr * 2, none⟩) (to_ - fr) (cv - fr)) (by simp [Act.eval]) (by simp [Act.eval]) _ _ (rn _) ?_
      simp only [Act.put]
      go_upto_region 15 with fail
      clear rn m5n f5n m5
      generalize wn.setCell ⟨q + 1, 5, none⟩ (.slice a5 N5 c5) = w5 at o5 r5 HB5 ⊢
      have hN5 : N5 ≤ 200 := by have := HPN.out; have := HRp.out; omega
      clear h2n hcap j1 j2 j3 h12 c0 c1 k0 k1 k2
      cases bad with
      | false =>
        have HV2 : Hid (replyOf d false = ⟨2, ⟨0, 0, 0, 0⟩, P, []⟩) := by
          show _ = _
          rw [HV.out]
          simp
          rfl
        have HLn : Hid (P.length = N5) := HPN.out
        obtain ⟨_, hwp⟩ := Wide.of_owns o5
        have HWp : Hid (Wide 2 w5 a5 N5 c5 (cells P)) := hwp
        have HBx : Hid (Below w.heap.size w w5) := HB5.out
        have m5x := (fin_cells r5).2.2.2.2.2.1
        clear hwp o5
        go_wp2_with fail
        obtain ⟨c13, HH⟩ := FIN.out w5 2 0 0 0 0 a5 N5 c5 none 0 0 HBx.out r5 ⟨P, [], HV2.out, HLn.out, rfl, HWp.out, Row.nil _ _ _⟩
        obtain ⟨m0, m1, m2, m3, m4, m5, m6⟩ := fin_cells r5
        clear FIN r5
        refine wp_loop_rounds 1 ?_
        rw [rounds_succ]
        go_upto_region 25 with fail
        all_goals
          refine wp_region_still_tail 5 (by kernel_rfl) (by kernel_rfl) ?_
          rw [show ({ w5 with drawn := w5.drawn + 1 } : World) = w5.drew from rfl]
          simp only [List.take_succ_cons, List.take_zero, List.drop_succ_cons, List.drop_zero]
          repeat still_step
          refine wpStill_nil ?_
          go_wp2_with fail
          refine HH.out.mono ?_
          rintro e w9 ⟨rfl, hd9⟩
          have HD9 : Hid (Did w w9 B b F D) := hd9
          clear HH hd9 m0 m1 m2 m3 m4 m5 m6 c13
          go_wp2_with fail
          go_ret
          exact ⟨rfl, HD9.out⟩
      | true =>
        have HV2 : Hid (replyOf d true = ⟨2, ⟨0, 0, 0, 0⟩, P.map (fun e => (0, e.2)), []⟩) := by
          show _ = _
          rw [HV.out]
          simp
          rfl
        have HM : Hid ((∀ k, k < N5 → (cells (mix k P)).set (k * 2) (.int .i64 0) = cells (mix (k + 1) P)) ∧ (∀ k, k < N5 → ∃ t, (cells (mix k P))[k * 2]? = some (.int .i64 t)) ∧ mix 0 P = P ∧ mix N5 P = P.map fun e => (0, e.2)) := ⟨fun k hk => RunMix.mix_next k P (by have := HPN.out; omega), fun k hk => RunMix.mix_at k P (by have := HPN.out; omega), rfl, RunMix.mix_full _ _ (by have := HPN.out; omega)⟩
        have HR5 : Hid (w5.rowIs (q + 1) 87 7 (cell7 2 0 0 0 0 (.slice a5 N5 c5) (.slice none 0 0))) := r5
        have HO5 : Hid (w5.ownsRow w.heap.size 65 2 (.slice a5 N5 c5) N5 (cells P)) := o5
        have HFn : Hid (∀ k, (Value.slice a5 N5 c5).ownBlock = some k → w.heap.size ≤ k ∧ k ≠ q + 1) := hfn
        clear r5 o5 hfn
        go_wp2_with fail
        go_loopw [9] (fun i wr => ∃ k : Nat, k ≤ N5 ∧ i = .int .i64 (k : Int) ∧ wr.ownsRow w.heap.size 65 2 (.slice a5 N5 c5) N5 (cells (mix k P)) ∧ Hid (Kept (fun k => (Value.slice a5 N5 c5).ownBlock = some k) w5 wr)) (fun i _ => N5 - (intOf i).toNat)
        case atStart => exact ⟨0, Nat.zero_le _, rfl, by rw [HM.out.2.2.1]; exact HO5.out, Kept.refl _ _⟩
        case round =>
          obtain ⟨k, hk, rfl, hO, HK⟩ := hrel
          have r5 := HR5.out.of_block (HK.out.block _ HR5.out.lt (fun z => (HFn.out _ z).2 rfl))
          have m5x := (fin_cells r5).2.2.2.2.2.1
          by_cases hlt : k < N5
          · have i1 : (k : Int) < (N5 : Int) := by omega
            clear r5
            obtain ⟨g5, rfl⟩ : ∃ g5, a5 = some ⟨g5, 0, none⟩ := by
              rcases hO.2 with ⟨_, z⟩ | ⟨g, cap, cur, hv, _⟩
              · omega
              · simp only [Value.slice.injEq] at hv
                exact ⟨g, hv.1⟩
            obtain ⟨t, ht⟩ := HM.out.2.1 k hlt
            have hlm : k * 2 < (cells (mix k P)).length := (List.getElem?_eq_some_iff.1 ht).1
            have x0 : wr.cell? ⟨g5, k * 2, none⟩ = some (.int .i64 t) := (hO.cellAt _ (by omega)).trans ht
            have f0 : wr.frozen? ⟨g5, k * 2, none⟩ = false := hO.frozenAt _
            have w1x : IntKind.i64.wrap ((k : Int) + 1) = (k : Int) + 1 := by rw [IntKind.wrap_i64]; omega
            have HOk : Hid (wr.ownsRow w.heap.size 65 2 (.slice (some ⟨g5, 0, none⟩) N5 c5) N5 (cells (mix k P))) := hO
            clear hO ht hlm
            go_wp2_with fail
            have HON : Hid ((wr.setCell ⟨g5, k * 2, none⟩ (.int .i64 0)).ownsRow w.heap.size 65 2 (.slice (some ⟨g5, 0, none⟩) N5 c5) N5 (cells (mix (k + 1) P))) := by
              rw [← HM.out.1 k hlt]
              exact (HOk.out.stored _ _).1
            have HKN : Hid (Kept (fun k => (Value.slice (some ⟨g5, 0, none⟩) N5 c5).ownBlock = some k) w5 (wr.setCell ⟨g5, k * 2, none⟩ (.int .i64 0))) := HK.out.setCell (p := ⟨g5, k * 2, none⟩) (.inl rfl) _
            go_roundw
            case rel => exact ⟨k + 1, by omega, by go_num, HON.out, HKN.out⟩
            case measure => simp [intOf]; omega
          · have i1 : ¬ (k : Int) < (N5 : Int) := by omega
            have hkN : k = N5 := by omega
            subst hkN
            have HLn : Hid ((P.map fun e : Entry => ((0 : Int), e.2)).length = k) := by show _ = _; rw [List.length_map]; exact HPN.out
            have ho6 : wr.ownsRow w.heap.size 65 2 (.slice a5 k c5) k (cells (P.map fun e => (0, e.2))) := by
              have := HM.out.2.2.2
              rw [← this]
              exact hO
            obtain ⟨_, hwp⟩ := Wide.of_owns ho6
            have HWp : Hid (Wide 2 wr a5 k c5 (cells (P.map fun e => (0, e.2)))) := hwp
            have HBx : Hid (Below w.heap.size w wr) := HB5.out.trans (HK.out.below (fun i hi => (HFn.out i hi).1) HB5.out.size)
            clear hO ho6 hwp hlt
            go_wp2_with fail
            obtain ⟨c13, HH⟩ := FIN.out wr 2 0 0 0 0 a5 k c5 none 0 0 HBx.out r5 ⟨(P.map fun e => (0, e.2)), [], HV2.out, HLn.out, rfl, HWp.out, Row.nil _ _ _⟩
            obtain ⟨m0, m1, m2, m3, m4, m5, m6⟩ := fin_cells r5
            clear FIN r5 
            go_upto_region 25 with fail
            refine wp_region_still_tail 5 (by kernel_rfl) (by kernel_rfl) ?_
            rw [show ({ wr with drawn := wr.drawn + 1 } : World) = wr.drew from rfl]
            simp only [List.take_succ_cons, List.take_zero, List.drop_succ_cons, List.drop_zero]
            repeat still_step
            refine wpStill_nil ?_
            go_wp2_with fail
            refine HH.out.mono ?_
            rintro e w9 ⟨rfl, hd9⟩
            have HD9 : Hid (Did w w9 B b F D) := hd9
            clear HH hd9 m0 m1 m2 m3 m4 m5 m6 c13
            go_wp2_with fail
            go_ret
            exact ⟨rfl, HD9.out⟩
    · have hx3 : X = 3 := by
        have := (Mirrors.want_else (m := d.mir) (by rw [← HW.out]; exact hx1) (by rw [← HW.out]; exact hx2)).1
        rw [← HW.out] at this
        exact congrArg Want.what this
      subst hx3
      obtain ⟨hwe, hn0, hhas⟩ := Mirrors.want_else (m := d.mir) (by rw [← HW.out]; exact hx1) (by rw [← HW.out]; exact hx2)
      obtain ⟨fr, to_, eY, eZ, hfr, hto, htl⟩ : ∃ fr to_ : Nat, Y = (fr : Int) ∧ Z = (to_ : Int) ∧ 1 ≤ fr ∧ fr ≤ to_ ∧ to_ ≤ d.log.length := by
        have hends := (HF.out.mir.some hn0).2.2.2
        have hnext := HF.out.next
        have hh : d.mir.has = d.mir.own.length + d.mir.waits.length := rfl
        have e := HW.out.trans hwe
        injection e with _ eY eZ
        refine ⟨d.mir.own.length, d.mir.has, eY, eZ, ?_, by omega, by omega⟩
        rcases Nat.eq_zero_or_pos d.mir.own.length with z | z
        · exfalso
          unfold Mirrors.ends at hends
          rw [decide_eq_false_iff_not] at hends
          exact hends ⟨z, by omega⟩
        · exact z
      subst eY eZ
      have HV : Hid (replyOf d bad = ⟨3, Heads.zero, [], if bad = true then Runs.spoilP (Grows.grow (leafsOf (d.log.take to_)) fr true) else Grows.grow (leafsOf (d.log.take to_)) fr true⟩) := by
        show _ = _
        have hp : proofOf d = Grows.grow (leafsOf (d.log.take to_)) fr true := by
          unfold Runs.proofOf
          rw [← HW.out]
          simp only [Int.toNat_natCast]
          rw [if_neg (by omega)]
        unfold Runs.replyOf
        rw [hp, ← HW.out]
        rfl
      obtain ⟨ga, oa, rfl, _⟩ := hw.2.2 (by omega)
      have hcap : d.log.length ≤ cv := hw.2.1
      have hok : entsE (d.log.take to_) = 0 := Entries.ents_of (by rw [List.length_take]; omega) fun e he => (Entries.ents_ok HF.out.log).2 e (List.mem_of_mem_take he)
      have hlf : (leafsOf (d.log.take to_)).length = to_ := by
        unfold Entries.leafsOf
        rw [List.length_map, List.length_take]
        omega
      have HLf : Hid (∀ w', Below w2.heap.size w2 w' → Calls Tryz.prog 40 #[.slice (some ⟨ga, oa, none⟩) to_ cv] w' fun e w'' => ∃ v, e = .returned v ∧ w''.ownsRow w'.heap.size 3 1 v to_ (ints (leafsOf (d.log.take to_))) ∧ Below w'.heap.size w' w'') := fun w' qq => by
        have := WalkUnpackRef.leafs_any (d.log.take to_) (some ⟨ga, oa, none⟩) to_ cv w' ((EntCuts.first hw to_ htl).below qq) hok
        rw [hlf] at this
        exact this
      have HGr : Hid (∀ a n cap w', n = to_ → Row w' a n cap (ints (leafsOf (d.log.take to_))) → Calls Tryz.prog 39 #[.slice a n cap, .int .i64 (fr : Int), .bool true] w' fun e w'' => ∃ v, e = .returned v ∧ w''.ownsRow w'.heap.size 3 1 v (Grows.grow (leafsOf (d.log.take to_)) fr true).length (ints (Grows.grow (leafsOf (d.log.take to_)) fr true)) ∧ Below w'.heap.size w' w'') := fun a n cap w' hn hr => by
        subst hn
        exact WalkGrowRef.grow_any (n + 1) _ fr fr true a n cap w' rfl (by omega) hfr hto (by omega) hr (GrowRight.leafs_valid _)
      have hpl : (Grows.grow (leafsOf (d.log.take to_)) fr true).length ≤ 201 := by
        rw [Grows.grow_length _ _ _ _ (Nat.le_refl _) (by omega) (by omega), hlf]
        have := Grows.gturns_le _ fr to_ (Nat.le_refl _)
        unfold Grows.gsteps
        split <;> omega
      generalize Grows.grow (leafsOf (d.log.take to_)) fr true = P at HV HGr hpl
      generalize leafsOf (d.log.take to_) = LL at HLf HGr
      generalize d.log.length = N at c0 htl hcap hll
      have HPl : Hid (P.length ≤ 201) := hpl
      have j1 : (to_ : Int) ≤ (cv : Int) := by omega
      have j2 : (0 : Int) ≤ (to_ : Int) := by omega
      have zE : ∀ w' : World, (sizeOf 65).run Tryz.prog w' = .ok 2 w' := fun w' => by kernel_rfl
      obtain ⟨r2, hqw, hq2⟩ := HR.out
      have m6 := (fin_cells r2).2.2.2.2.2.2
      have hqs : q < w2.heap.size := by omega
      clear hw HW HF hok hlf hpl hwe hn0 hhas hx1 hx2 r2 hfr hto htl
      go_upto_region 20 with fail
      go_region_with (first | (go_at_call 40; refine (HLf.out _ (Below.refl _ _).drew).mono ?_; rintro e w3 ⟨v3, rfl, o3, b3⟩; obtain ⟨a3, c3, rfl, hr3, _⟩ := owns_row o3; have HB3 : Hid (Below w2.heap.size w2 w3) := (Below.refl _ w2).drew.trans b3; have y1 := Lists.cell_below HB3.out k1; clear o3 b3) | (go_at_call 39; refine (HGr.out _ _ _ _ rfl hr3).mono ?_; rintro e w4 ⟨v4, rfl, o4, b4⟩; obtain ⟨a6, c6, rfl, _, _⟩ := owns_row o4; have HO4 : Hid (w4.ownsRow w3.heap.size 3 1 (.slice a6 P.length c6) P.length (ints P)) := o4; have HB4 : Hid (Below w2.heap.size w2 w4) := bt HB3.out b4; have y6 := Lists.cell_below HB4.out m6; have f6 : w4.frozen? ⟨q + 1, 6, none⟩ = false := (HR.out.1.of_block (HB4.out.block _ HR.out.2.2)).frozen 6; clear o4 b4))
      all_goals
        have r5a := HR.out.1.of_block (HB4.out.block _ HR.out.2.2)
        have k5 : Kept (fun k => k = q + 1) w4 (w4.setCell ⟨q + 1, 6, none⟩ (.slice a6 P.length c6)) := (Kept.refl (fun k => k = q + 1) w4).setCell (.inl rfl) _
        have r5 : (w4.setCell ⟨q + 1, 6, none⟩ (.slice a6 P.length c6)).rowIs (q + 1) 87 7 (cell7 3 0 0 0 0 (.slice none 0 0) (.slice a6 P.length c6)) := (r5a.set 6 _).congr fun i hi => by match i, hi with | 0, _ => rfl | 1, _ => rfl | 2, _ => rfl | 3, _ => rfl | 4, _ => rfl | 5, _ => rfl | 6, _ => rfl
        have hw23 := HB3.out.size
        have o5 := owns_kept HO4.out k5 fun i hi z => by have := (HO4.out.lt i hi).1; have := HR.out.2.2; omega
        have HBx : Hid (Below w.heap.size w (w4.setCell ⟨q + 1, 6, none⟩ (.slice a6 P.length c6))) := (bt HB2.out HB4.out).setCell HR.out.2.1 _
        have hq3 : q + 1 < w3.heap.size := Nat.lt_of_lt_of_le HR.out.2.2 hw23
        have hb3 : w.heap.size ≤ w3.heap.size := Nat.le_trans HB2.out.size hw23
        clear y6 y1 m6 f6 HO4 HB4 HB3 hr3 k5 r5a hw23 HLf HGr k0 k1 k2 c0 c1
        go_upto_region 21 with fail
        generalize w4.setCell ⟨q + 1, 6, none⟩ (.slice a6 P.length c6) = w5 at o5 r5 HBx ⊢
        cases bad with
        | false =>
          have HV2 : Hid (replyOf d false = ⟨3, ⟨0, 0, 0, 0⟩, [], P⟩) := by
            show _ = _
            rw [HV.out]
            simp
            rfl
          have HLn : Hid (P.length = P.length) := rfl
          obtain ⟨x6, z6, e6, hrw, _⟩ := owns_row o5
          obtain ⟨rfl, rfl⟩ : a6 = x6 ∧ c6 = z6 := by simpa using e6
          have HWp : Hid (Row w5 a6 P.length c6 (ints P)) := hrw
          clear o5 hrw e6
          obtain ⟨c13, HH⟩ := FIN.out w5 3 0 0 0 0 none 0 0 a6 P.length c6 HBx.out r5 ⟨[], P, HV2.out, rfl, HLn.out, Wide.nil _ _ _ _, HWp.out⟩
          obtain ⟨m0, m1, m2, m3, m4, m5, m6⟩ := fin_cells r5
          clear FIN r5 
          go_upto_region 25 with fail
          refine wp_region_still_tail 5 (by kernel_rfl) (by kernel_rfl) ?_
          rw [show ({ w5 with drawn := w5.drawn + 1 } : World) = w5.drew from rfl]
          simp only [List.take_succ_cons, List.take_zero, List.drop_succ_cons, List.drop_zero]
          repeat still_step
          refine wpStill_nil ?_
          go_wp2_with fail
          refine HH.out.mono ?_
          rintro e w9 ⟨rfl, hd9⟩
          have HD9 : Hid (Did w w9 B b F D) := hd9
          clear HH hd9 m0 m1 m2 m3 m4 m5 m6 c13
          go_wp2_with fail
          go_ret
          exact ⟨rfl, HD9.out⟩
        | true =>
          cases P with
          | nil =>
            have HV2 : Hid (replyOf d true = ⟨3, ⟨0, 0, 0, 0⟩, [], [0]⟩) := by
              show _ = _
              rw [HV.out]
              simp only [if_true]
              rfl
            have p6 := (fin_cells r5).2.2.2.2.2.2
            have pf := r5.frozen 6
            simp only [List.length_nil] at p6
            have HR5 : Hid (w5.rowIs (q + 1) 87 7 (cell7 3 0 0 0 0 (.slice none 0 0) (.slice a6 ([] : List Int).length c6))) := r5
            have hq5 := r5.lt
            have bA : Below w5.heap.size w5 (w5.alloc (.cells #[.int .i64 0] 3)) := (Below.refl _ _).alloc (Nat.le_refl _) _
            have hA0 : (w5.alloc (.cells #[.int .i64 0] 3)).cell? ⟨w5.heap.size, 0, none⟩ = some (.int .i64 0) := by simp
            clear r5 o5
            go_upto_region 23 with fail
            rw [← World.setCell_alloc_past (.cells #[.int .i64 0] 3) (q + 1) 6 (.slice (some ⟨w5.heap.size, 0, none⟩) 1 1) hq5]
            have k6 : Kept (fun k => k = q + 1) (w5.alloc (.cells #[.int .i64 0] 3)) ((w5.alloc (.cells #[.int .i64 0] 3)).setCell ⟨q + 1, 6, none⟩ (.slice (some ⟨w5.heap.size, 0, none⟩) 1 1)) := (Kept.refl (fun k => k = q + 1) _).setCell (.inl rfl) _
            have r6 : ((w5.alloc (.cells #[.int .i64 0] 3)).setCell ⟨q + 1, 6, none⟩ (.slice (some ⟨w5.heap.size, 0, none⟩) 1 1)).rowIs (q + 1) 87 7 (cell7 3 0 0 0 0 (.slice none 0 0) (.slice (some ⟨w5.heap.size, 0, none⟩) 1 1)) := ((HR5.out.of_block (bA.block _ hq5)).set 6 _).congr fun i hi => by match i, hi with | 0, _ => rfl | 1, _ => rfl | 2, _ => rfl | 3, _ => rfl | 4, _ => rfl | 5, _ => rfl | 6, _ => rfl
            have on : (w5.alloc (.cells #[.int .i64 0] 3)).ownsRow w5.heap.size 3 1 (.slice (some ⟨w5.heap.size, 0, none⟩) 1 1) 1 (ints [0]) := WalkGrowRef.owns_one w5 0
            have o6 := owns_kept on k6 fun i hi z => by have := (on.lt i hi).1; omega
            have HB6 : Hid (Below w.heap.size w ((w5.alloc (.cells #[.int .i64 0] 3)).setCell ⟨q + 1, 6, none⟩ (.slice (some ⟨w5.heap.size, 0, none⟩) 1 1))) := (HBx.out.alloc HBx.out.size _).setCell HR.out.2.1 _
            clear p6 pf hA0 bA on k6 HBx HR5
            generalize (w5.alloc (.cells #[.int .i64 0] 3)).setCell ⟨q + 1, 6, none⟩ (.slice (some ⟨w5.heap.size, 0, none⟩) 1 1) = w6 at r6 o6 HB6 ⊢
            have p6 := (fin_cells r6).2.2.2.2.2.2
            have pc : w6.cell? ⟨w5.heap.size, 0, none⟩ = some (.int .i64 0) := (o6.cellAt 0 (by decide)).trans rfl
            have pf : w6.frozen? ⟨w5.heap.size, 0, none⟩ = false := o6.frozenAt _
            have k7 : Kept (fun k => k = w5.heap.size) w6 (w6.setCell ⟨w5.heap.size, 0, none⟩ (.int .i64 0)) := (Kept.refl (fun k => k = w5.heap.size) w6).setCell (.inl rfl) _
            have r5 := r6.of_block (k7.block _ r6.lt (by omega))
            have o7 : (w6.setCell ⟨w5.heap.size, 0, none⟩ (.int .i64 0)).ownsRow w5.heap.size 3 1 (.slice (some ⟨w5.heap.size, 0, none⟩) 1 1) 1 (ints [0]) := Keeps.owns_set o6 0 (.int .i64 0)
            have HBx : Hid (Below w.heap.size w (w6.setCell ⟨w5.heap.size, 0, none⟩ (.int .i64 0))) := HB6.out.setCell (show w.heap.size ≤ w5.heap.size by omega) _
            clear r6 o6 k7
            go_upto_region 25 with fail
            clear p6 pc pf HB6
            generalize w6.setCell ⟨w5.heap.size, 0, none⟩ (.int .i64 0) = w7 at r5 o7 HBx ⊢
            have HLn : Hid (([0] : List Int).length = 1) := rfl
            obtain ⟨x6, z6, e6, hrw, _⟩ := owns_row o7
            obtain ⟨e7, rfl⟩ : some (⟨w5.heap.size, 0, none⟩ : Addr) = x6 ∧ 1 = z6 := by simpa using e6
            subst e7
            have HWp : Hid (Row w7 (some ⟨w5.heap.size, 0, none⟩) 1 1 (ints [0])) := hrw
            clear o7 hrw e6
            obtain ⟨c13, HH⟩ := FIN.out w7 3 0 0 0 0 none 0 0 (some ⟨w5.heap.size, 0, none⟩) 1 1 HBx.out r5 ⟨[], [0], HV2.out, rfl, HLn.out, Wide.nil _ _ _ _, HWp.out⟩
            obtain ⟨m0, m1, m2, m3, m4, m5, m6⟩ := fin_cells r5
            clear FIN r5 
            go_upto_region 25 with fail
            refine wp_region_still_tail 5 (by kernel_rfl) (by kernel_rfl) ?_
            rw [show ({ w7 with drawn := w7.drawn + 1 } : World) = w7.drew from rfl]
            simp only [List.take_succ_cons, List.take_zero, List.drop_succ_cons, List.drop_zero]
            repeat still_step
            refine wpStill_nil ?_
            go_wp2_with fail
            refine HH.out.mono ?_
            rintro e w9 ⟨rfl, hd9⟩
            have HD9 : Hid (Did w w9 B b F D) := hd9
            clear HH hd9 m0 m1 m2 m3 m4 m5 m6 c13
            go_wp2_with fail
            go_ret
            exact ⟨rfl, HD9.out⟩
          | cons z T =>
            have HV2 : Hid (replyOf d true = ⟨3, ⟨0, 0, 0, 0⟩, [], 0 :: T⟩) := by
              show _ = _
              rw [HV.out]
              simp only [if_true]
              rfl
            obtain ⟨g6, rfl⟩ : ∃ g6, a6 = some ⟨g6, 0, none⟩ := by
              rcases o5.2 with ⟨_, e⟩ | ⟨g, cap, cur, hv, _⟩
              · simp at e
              · simp only [Value.slice.injEq] at hv
                exact ⟨g, hv.1⟩
            have hgb := o5.lt g6 rfl
            have p6 := (fin_cells r5).2.2.2.2.2.2
            have pc : w5.cell? ⟨g6, 0, none⟩ = some (.int .i64 z) := (o5.cellAt 0 (by simp)).trans rfl
            have pf : w5.frozen? ⟨g6, 0, none⟩ = false := o5.frozenAt _
            have k7 : Kept (fun k => k = g6) w5 (w5.setCell ⟨g6, 0, none⟩ (.int .i64 0)) := (Kept.refl (fun k => k = g6) w5).setCell (.inl rfl) _
            have hne : q + 1 ≠ g6 := by omega
            have r7 := r5.of_block (k7.block _ r5.lt hne)
            have o7 : (w5.setCell ⟨g6, 0, none⟩ (.int .i64 0)).ownsRow w3.heap.size 3 1 (.slice (some ⟨g6, 0, none⟩) (z :: T).length c6) (z :: T).length (ints (0 :: T)) := Keeps.owns_set o5 0 (.int .i64 0)
            have HB7 : Hid (Below w.heap.size w (w5.setCell ⟨g6, 0, none⟩ (.int .i64 0))) := HBx.out.setCell (show w.heap.size ≤ g6 by omega) _
            obtain ⟨N6, hN6⟩ : ∃ N6, (z :: T).length = N6 := ⟨_, rfl⟩
            have hN0 : 0 < N6 := by rw [← hN6]; simp
            have hpl0 := HPl.out
            rw [hN6] at p6 r7 o7 hpl0
            have HLn : Hid ((0 :: T).length = N6) := hN6
            have e0 : ((N6 : Int) == 0) = false := by rw [beq_eq_false_iff_ne]; omega
            have i0 : (0 : Int) < (N6 : Int) := by omega
            clear r5 o5 k7 HBx hne hN6
            go_upto_region 25 with fail
            clear p6 pc pf
            generalize w5.setCell ⟨g6, 0, none⟩ (.int .i64 0) = w7 at r7 o7 HB7 ⊢
            have r5 := r7
            have HBx : Hid (Below w.heap.size w w7) := HB7.out
            obtain ⟨x6, z6, e6, hrw, _⟩ := owns_row o7
            obtain ⟨e7, rfl⟩ : some (⟨g6, 0, none⟩ : Addr) = x6 ∧ c6 = z6 := by simpa using e6
            subst e7
            have HWp : Hid (Row w7 (some ⟨g6, 0, none⟩) N6 c6 (ints (0 :: T))) := hrw
            clear o7 hrw e6 r7
            obtain ⟨c13, HH⟩ := FIN.out w7 3 0 0 0 0 none 0 0 (some ⟨g6, 0, none⟩) N6 c6 HBx.out r5 ⟨[], (0 :: T), HV2.out, rfl, HLn.out, Wide.nil _ _ _ _, HWp.out⟩
            obtain ⟨m0, m1, m2, m3, m4, m5, m6⟩ := fin_cells r5
            clear FIN r5 
            go_upto_region 25 with fail
            refine wp_region_still_tail 5 (by kernel_rfl) (by kernel_rfl) ?_
            rw [show ({ w7 with drawn := w7.drawn + 1 } : World) = w7.drew from rfl]
            simp only [List.take_succ_cons, List.take_zero, List.drop_succ_cons, List.drop_zero]
            repeat still_step
            refine wpStill_nil ?_
            go_wp2_with fail
            refine HH.out.mono ?_
            rintro e w9 ⟨rfl, hd9⟩
            have HD9 : Hid (Did w w9 B b F D) := hd9
            clear HH hd9 m0 m1 m2 m3 m4 m5 m6 c13
            go_wp2_with fail
            go_ret
            exact ⟨rfl, HD9.out⟩

end Go.Proofs.YtfpkngpgmllhnaaGreatDoor.WalkStepRef

/-
  The document's own desk answers a line.
-/
set_option maxRecDepth 100000
namespace Go.Proofs.YtfpkngpgmllhnaaGreatDoor.WalkLineRef
open Go.RowKit
open Keeps (Kept owns_kept)
open Wides (Wide owns_wide)
open Lists (bt)
open EntRows (cells cells_append)
open Entries (Entry entE)
open MirDoc (Lay foot)
open Runs (Desk Fine line wantA stateA addA addE askA keyA stepE stepD)
open RunDoc (Dk two)
open RunMix (sized)
open MirVals (wv aggW sizeW)
open WalkStepRef (Did)
open Decimals (dec)
open Nums (str text)
open WalkWordRef (wordV)
open Answers (answer)

theorem beq_yes {s : ByteArray} {l : List UInt8} (h : s.data.toList = l) : (s.toList == l) = true := by rw [beq_iff_eq, ByteArray.toList_eq]; exact h
theorem beq_no {s : ByteArray} {l : List UInt8} (h : s.data.toList ≠ l) : (s.toList == l) = false := by rw [beq_eq_false_iff_ne, ByteArray.toList_eq]; exact h
theorem did_same {w w' : World} {B b : Nat} {F : Nat → Prop} {d : Desk} (h : Dk w B b F d) (q : Below w.heap.size w w') : Did w w' B b F d := ⟨⟨F, h.below q, fun _ hk => .inl hk⟩, Kept.of_below F q⟩
theorem did_then {w w2 w3 : World} {B b : Nat} {F : Nat → Prop} {d : Desk} (h : Did w w2 B b F d) (q : Below w2.heap.size w2 w3) : Did w w3 B b F d := by
  obtain ⟨⟨F', h1, h2⟩, h3⟩ := h
  exact ⟨⟨F', h1.below q, h2⟩, h3.then q⟩
theorem empty_yes {x : ByteArray} (h : x.size = 0) : (x.toList == []) = true := by
  have : x = ⟨#[]⟩ := by
    apply ByteArray.ext
    exact Array.size_eq_zero_iff.1 h
  rw [this, ByteArray.toList_eq]
  rfl
theorem empty_no {x : ByteArray} (h : x.size ≠ 0) : (x.toList == []) = false := by
  rw [beq_eq_false_iff_ne, ByteArray.toList_eq]
  intro e
  have := congrArg List.length e
  simp at this
  exact h (by show x.data.size = 0; rw [this]; rfl)

theorem key_any (k : ByteArray) (w : World) : Calls Tryz.prog 25 #[.string k] w fun e w' => e = .returned (.int .i64 (Stores.keyE k : Nat)) ∧ w' = w := by
  by_cases h0 : k.size = 0
  · have HV : Hid (Stores.keyE k = 2) := if_pos h0
    have e0 := empty_yes h0
    clear h0
    go_enter Tryz.func25, Tryz.ntmps25
    go_wp2_with fail
    go_ret
    exact ⟨by rw [HV.out]; rfl, rfl⟩
  · have e0 := empty_no h0
    by_cases h1 : 200 < k.size
    · have HV : Hid (Stores.keyE k = 4) := by show _ = _; unfold Stores.keyE; rw [if_neg h0, if_pos h1]
      have i1 : (200 : Int) < (k.size : Int) := by omega
      clear h0 h1
      go_enter Tryz.func25, Tryz.ntmps25
      go_wp2_with fail
      go_ret
      exact ⟨by rw [HV.out]; rfl, rfl⟩
    · have HV : Hid (Stores.keyE k = 0) := by show _ = _; unfold Stores.keyE; rw [if_neg h0, if_neg h1]
      have i1 : ¬ (200 : Int) < (k.size : Int) := by omega
      clear h0 h1
      go_enter Tryz.func25, Tryz.ntmps25
      go_wp2_with fail
      go_ret
      exact ⟨by rw [HV.out]; rfl, rfl⟩


theorem str_want (a b c : List UInt8) : str a ++ ⟨#[32]⟩ ++ str b ++ ⟨#[32]⟩ ++ str c = str (a ++ 32 :: (b ++ 32 :: c)) := by
  unfold Nums.str
  apply ByteArray.ext
  apply Array.ext'
  simp [ByteArray.data_append]
theorem str_state (a b : List UInt8) : str a ++ ⟨#[32]⟩ ++ str b = str (a ++ 32 :: b) := by
  unfold Nums.str
  apply ByteArray.ext
  apply Array.ext'
  simp [ByteArray.data_append]
theorem size_blank : (ByteArray.mk #[32]).size = 1 := rfl
theorem waits_few {key : Int} {m : Mirrors.Mir} (ho : Mirrors.Ok key m) : m.waits.length ≤ 200 := by
  by_cases hz : m.next.size = 0
  · rw [(ho.none hz).2]; simp
  · have q1 := (ho.some hz).2.2.1
    have q2 := (Mirrors.size_ok (ho.some hz).1).2
    have q3 : (m.has : Int) = ((m.own.length + m.waits.length : Nat) : Int) := rfl
    omega
theorem log_any {w : World} {B b : Nat} {F : Nat → Prop} {d : Desk} (h : Dk w B b F d) : ∃ a c, w.cell? ⟨b, 0, none⟩ = some (.slice a d.log.length c) ∧ Wide 2 w a d.log.length c (cells d.log) := by
  obtain ⟨bm, v, v1, v2, h1, h2, _⟩ := h.core
  obtain ⟨a, c, rfl, hw⟩ := owns_wide h2
  exact ⟨a, c, h1.cell (i := 0) (by omega), hw⟩

theorem num4_is (x : List UInt8) : Decimals.number x 4 = if WalkNum4.num4B x = true then some (WalkNum4.num4V x) else none := by
  unfold WalkNum4.num4B WalkNum4.num4V
  cases Decimals.number x 4 <;> rfl
theorem cell_two_new (w : World) (x y : Value) (t : TypeId) : ∀ j u, [x, y][j]? = some u → (w.alloc (.cells #[x, y] t)).cell? ((⟨w.heap.size, 0, none⟩ : Addr).add j) = some u := by
  intro j u hj
  rw [show (⟨w.heap.size, 0, none⟩ : Addr).add j = ⟨w.heap.size, j, none⟩ by unfold Addr.add; split <;> simp_all]
  match j, hj with
  | 0, hj => simp at hj; subst hj; simp
  | 1, hj => simp at hj; subst hj; simp
  | j + 2, hj => simp at hj
/-- one more lies in the log -/
theorem dk_log {w : World} {B b : Nat} {F : Nat → Prop} {d : Desk} (hB : B ≤ b) (x : Entry) {bm : Nat} {v v1 m1 m2 : Value} (h1 : w.rowIs b 33 2 (two v (.pointer (some ⟨bm, 0, none⟩)))) (h3 : Lay w B bm 7 d.mir m1 m2) (h5 : ∀ k, foot bm m1 m2 k → k ≠ b ∧ v.ownBlock ≠ some k) (h4 : v.ownBlock ≠ some b) (h6 : ∀ k, F k ↔ k = b ∨ v.ownBlock = some k ∨ foot bm m1 m2 k)
    {w1 : World} (r1 : w1.rowIs b 33 2 (two v (.pointer (some ⟨bm, 0, none⟩)))) (o1 : w1.ownsRow B 65 2 v1 (d.log.length + 1) (cells d.log ++ [.int .i64 x.1, .string x.2])) (at1 : v1.ownBlock = v.ownBlock ∨ ∃ k, v1.ownBlock = some k ∧ w.heap.size ≤ k) (k1 : Kept (fun k => v.ownBlock = some k) w w1) :
    Did w (w1.setCell ⟨b, 0, none⟩ v1) B b F ⟨d.log ++ [x], d.mir⟩ := by
  have hbl := h1.lt
  have ap1 : v1.ownBlock ≠ some b := by
    rcases at1 with e | ⟨k, e, hk⟩
    · rw [e]; exact h4
    · rw [e]; intro q; have := Option.some.inj q; omega
  have ks : Kept (fun k => k = b) w1 (w1.setCell ⟨b, 0, none⟩ v1) := (Kept.refl (fun k => k = b) w1).setCell (.inl rfl) _
  have kk : Kept (fun k => k = b ∨ v.ownBlock = some k) w (w1.setCell ⟨b, 0, none⟩ v1) := (k1.mono fun i hi => .inr hi).setCell (p := ⟨b, 0, none⟩) (.inl (.inl rfl)) _
  refine ⟨⟨fun k => k = b ∨ v1.ownBlock = some k ∨ foot bm m1 m2 k, ⟨⟨bm, v1, m1, m2, ?_, ?_, h3.kept kk fun i hi q => by rcases q with q | q; exact (h5 i hi).1 q; exact (h5 i hi).2 q, ap1, fun k hk => ⟨(h5 k hk).1, ?_⟩, fun _ => Iff.rfl⟩, hB⟩, ?_⟩, kk.mono fun i hi => (h6 i).2 (hi.imp_right .inl)⟩
  · exact (r1.set 0 _).congr fun i hi => by match i, hi with | 0, _ => rfl | 1, _ => rfl
  · rw [show (d.log ++ [x]).length = d.log.length + 1 by simp, show cells (d.log ++ [x]) = cells d.log ++ [.int .i64 x.1, .string x.2] by rw [cells_append]; rfl]
    exact owns_kept o1 ks fun i hi q => ap1 (by rw [hi, q])
  · rcases at1 with e | ⟨j, e, hj⟩
    · rw [e]; exact (h5 k hk).2
    · rw [e]; intro q; have := Option.some.inj q; have := (h3.foot_lt k hk).2; omega
  · rintro k (hk | hk | hk)
    · exact .inl ((h6 k).2 (.inl hk))
    · rcases at1 with e | ⟨j, e, hj⟩
      · exact .inl ((h6 k).2 (.inr (.inl (by rw [← e]; exact hk))))
      · refine .inr ?_
        rw [e] at hk
        have := Option.some.inj hk
        omega
    · exact .inl ((h6 k).2 (.inr (.inr hk)))

set_option maxHeartbeats 8000000 in
theorem line_any {w : World} {B b : Nat} {F : Nat → Prop} {d : Desk} (h : Dk w B b F d) (hf : Fine d) (hB : B ≤ w.heap.size) (s : ByteArray) (hs : s.size ≤ 1000000) :
    Calls Tryz.prog 8 #[.pointer (some ⟨b, 0, none⟩), .string s] w fun e w' => e = .returned (.string (str (line d s.data.toList).1)) ∧ Did w w' B b F (line d s.data.toList).2 := by
  have HDk : Hid (Dk w B b F d) := h
  have HFi : Hid (Fine d) := hf
  have cC := WalkWordRef.word_any s w hs
  cases hw : Runs.word s.data.toList with
  | none =>
    have hV : wordV s = .tuple #[.string s, .string ⟨#[]⟩, .bool false] := by unfold WalkWordRef.wordV; rw [hw]
    rw [hV] at cC
    have HL : Hid (line d s.data.toList = if s.data.toList = Runs.wWant then (wantA d, d) else if s.data.toList = Runs.wStep then (Runs.tellE (stepE d false), stepD d false) else if s.data.toList = Runs.badT then (Runs.tellE (stepE d true), stepD d true) else if s.data.toList = Runs.wState then (stateA d, d) else (Runs.badT, d)) := by show _ = _; unfold Runs.line; rw [hw]
    have lift : ∀ {w1 w2 : World} {d' : Desk}, Below w.heap.size w w1 → Did w1 w2 B b F d' → Did w w2 B b F d' := fun q ⟨⟨F', q1, q2⟩, q3⟩ => ⟨⟨F', q1, fun i hi => (q2 i hi).imp id fun z => Nat.le_trans q.size z⟩, (Kept.of_below F q).trans q3 fun i hi => .inl hi⟩
    by_cases h1 : s.data.toList = Runs.wWant
    · have HV : Hid (line d s.data.toList = (wantA d, d)) := by show _ = _; rw [HL.out, if_pos h1]
      have q1 := beq_yes h1
      unfold Runs.wWant at q1
      obtain ⟨bm, v, v1, v2, g1, g2, g3, g4, g5, g6⟩ := h.core
      obtain ⟨⟨p0, p1⟩, ⟨r0, r1⟩, ⟨t0, t1⟩, _⟩ := RunMix.want_bd hf.mir
      have HG : Hid (∀ w', Below w.heap.size w w' → Lay w' B bm 7 d.mir v1 v2 ∧ w'.cell? ⟨b, 1, none⟩ = some (.pointer (some ⟨bm, 0, none⟩))) := fun w' q => ⟨g3.below q, Lists.cell_below q (g1.cell (i := 1) (by omega))⟩
      have HA : Hid (wantA d = dec d.mir.want.what.toNat ++ 32 :: (dec d.mir.want.fr.toNat ++ 32 :: dec d.mir.want.to_.toNat)) := rfl
      have HWt : Hid (∀ w', Below w.heap.size w w' → Calls Tryz.prog 17 #[.pointer (some ⟨bm, 0, none⟩)] w' fun e w'' => e = .returned (wv d.mir.want) ∧ Below w'.heap.size w' w'') := fun w' q => WalkMirRef.want_any (HG.out w' q).1 hf.mir.few (waits_few hf.mir)
      unfold wv at HWt
      have aW := aggW
      have zW := sizeW
      generalize d.mir.want.what = X at *
      generalize d.mir.want.fr = Y at *
      generalize d.mir.want.to_ = Z at *
      have dX := fun w' => WalkHeadRef.digits X.toNat X w' (by omega) (by omega)
      have dY := fun w' => WalkHeadRef.digits Y.toNat Y w' (by omega) (by omega)
      have dZ := fun w' => WalkHeadRef.digits Z.toNat Z w' (by omega) (by omega)
      have HS : Hid (str (dec X.toNat) ++ ⟨#[32]⟩ ++ str (dec Y.toNat) ++ ⟨#[32]⟩ ++ str (dec Z.toNat) = str (wantA d)) := by
        show _ = _
        rw [HA.out]
        exact str_want _ _ _
      have lX : (str (dec X.toNat)).size ≤ 9 := by rw [Nums.str_size]; exact Decimals.dec_length 8 _ (by omega)
      have lY : (str (dec Y.toNat)).size ≤ 9 := by rw [Nums.str_size]; exact Decimals.dec_length 8 _ (by omega)
      have lZ : (str (dec Z.toNat)).size ≤ 9 := by rw [Nums.str_size]; exact Decimals.dec_length 8 _ (by omega)
      generalize str (dec X.toNat) = DX at dX lX HS
      generalize str (dec Y.toNat) = DY at dY lY HS
      generalize str (dec Z.toNat) = DZ at dZ lZ HS
      have ea := fun w' : World => run_string_add_sum (P := Tryz.prog) (w := w') DX ⟨#[32]⟩ (by rw [size_blank]; omega)
      have eb := fun w' : World => run_string_add_sum (P := Tryz.prog) (w := w') (DX ++ ⟨#[32]⟩) DY (by rw [ByteArray.size_append, size_blank]; omega)
      have ec := fun w' : World => run_string_add_sum (P := Tryz.prog) (w := w') (DX ++ ⟨#[32]⟩ ++ DY) ⟨#[32]⟩ (by rw [ByteArray.size_append, ByteArray.size_append, size_blank]; omega)
      have ed := fun w' : World => run_string_add_sum (P := Tryz.prog) (w := w') (DX ++ ⟨#[32]⟩ ++ DY ++ ⟨#[32]⟩) DZ (by rw [ByteArray.size_append, ByteArray.size_append, ByteArray.size_append, size_blank]; omega)
      clear h hf hV hw g1 g2 g3 g4 g5 g6 p0 p1 r0 r1 t0 t1 HL lift h1 HA
      go_enter Tryz.func8, Tryz.ntmps8
      go_wp2_with fail
      refine cC.mono ?_
      rintro e w1 ⟨rfl, b1⟩
      have HB1 : Hid (Below w.heap.size w w1) := b1
      have c1 := (HG.out w1 b1).2
      have cW := HWt.out w1 b1
      clear cC b1 HWt
      go_wp2_with fail
      refine cW.mono ?_
      rintro e w2 ⟨rfl, b2⟩
      have HB2 : Hid (Below w.heap.size w w2) := bt HB1.out b2
      clear cW b2 c1
      go_wp2_with fail
      refine (dX _).mono ?_
      rintro e w9 ⟨rfl, h9⟩
      rw [h9]
      clear h9 w9 dX
      go_wp2_with fail
      refine (dY _).mono ?_
      rintro e w9 ⟨rfl, h9⟩
      rw [h9]
      clear h9 w9 dY
      go_wp2_with fail
      refine (dZ _).mono ?_
      rintro e w9 ⟨rfl, h9⟩
      rw [h9]
      clear h9 w9 dZ
      go_wp2_with fail
      go_ret
      exact ⟨by rw [HV.out, ← HS.out]; rfl, by rw [HV.out]; exact did_same HDk.out (HB2.out.alloc HB2.out.size _)⟩
    have nh1 := beq_no h1
    unfold Runs.wWant at nh1

    by_cases h2 : s.data.toList = Runs.wStep
    · have HV : Hid (line d s.data.toList = (Runs.tellE (stepE d false), stepD d false)) := by show _ = _; rw [HL.out, if_neg h1, if_pos h2]
      have q2 := beq_yes h2
      unfold Runs.wStep at q2
      have q3 : (s.toList == [98, 97, 100]) = false := beq_no (by rw [h2]; decide)
      clear h hf hV hw HL h1 h2
      have hle := RunLess.step_le d false
      go_enter Tryz.func8, Tryz.ntmps8
      go_wp2_with fail
      refine cC.mono ?_
      rintro e w1 ⟨rfl, b1⟩
      have HB1 : Hid (Below w.heap.size w w1) := b1
      have cS := WalkStepRef.step_any (HDk.out.below b1) HFi.out false
      clear cC b1
      go_wp2_with fail
      refine cS.mono ?_
      rintro e w2 ⟨rfl, hd⟩
      have HD : Hid (Did w w2 B b F (stepD d false)) := lift HB1.out hd
      clear cS hd
      by_cases he : stepE d false = 0
      · rw [he] at HV ⊢
        have e0 : (((0 : Nat) : Int) != 0) = false := rfl
        go_wp2_with fail
        go_ret
        exact ⟨by rw [HV.out]; rfl, by rw [HV.out]; exact HD.out⟩
      · have cN := fun w' => WalkWordRef.name_any (stepE d false) w' hle
        have HT : Hid (Runs.tellE (stepE d false) = Runs.name (stepE d false)) := if_neg he
        have HV2 : Hid ((line d s.data.toList).1 = Runs.name (stepE d false) ∧ (line d s.data.toList).2 = stepD d false) := ⟨by rw [HV.out]; exact HT.out, by rw [HV.out]⟩
        have e0 : ((stepE d false : Int) != 0) = true := by rw [bne_iff_ne]; omega
        generalize stepE d false = E at cN HV2 e0 ⊢
        clear HV HT he hle
        go_wp2_with fail
        refine (cN _).mono ?_
        rintro e w3 ⟨rfl, b3⟩
        have HB3 : Hid (Below w2.heap.size w2 w3) := b3
        clear cN b3
        go_wp2_with fail
        go_ret
        exact ⟨by rw [HV2.out.1]; rfl, by rw [HV2.out.2]; exact did_then HD.out HB3.out⟩
    have nh2 := beq_no h2
    unfold Runs.wStep at nh2

    by_cases h3 : s.data.toList = Runs.badT
    · have HV : Hid (line d s.data.toList = (Runs.tellE (stepE d true), stepD d true)) := by show _ = _; rw [HL.out, if_neg h1, if_neg h2, if_pos h3]
      have q2 := beq_yes h3
      unfold Runs.badT at q2
      clear h hf hV hw HL h1 h2 h3
      have hle := RunLess.step_le d true
      go_enter Tryz.func8, Tryz.ntmps8
      go_wp2_with fail
      refine cC.mono ?_
      rintro e w1 ⟨rfl, b1⟩
      have HB1 : Hid (Below w.heap.size w w1) := b1
      have cS := WalkStepRef.step_any (HDk.out.below b1) HFi.out true
      clear cC b1
      go_wp2_with fail
      refine cS.mono ?_
      rintro e w2 ⟨rfl, hd⟩
      have HD : Hid (Did w w2 B b F (stepD d true)) := lift HB1.out hd
      clear cS hd
      by_cases he : stepE d true = 0
      · rw [he] at HV ⊢
        have e0 : (((0 : Nat) : Int) != 0) = false := rfl
        go_wp2_with fail
        go_ret
        exact ⟨by rw [HV.out]; rfl, by rw [HV.out]; exact HD.out⟩
      · have cN := fun w' => WalkWordRef.name_any (stepE d true) w' hle
        have HT : Hid (Runs.tellE (stepE d true) = Runs.name (stepE d true)) := if_neg he
        have HV2 : Hid ((line d s.data.toList).1 = Runs.name (stepE d true) ∧ (line d s.data.toList).2 = stepD d true) := ⟨by rw [HV.out]; exact HT.out, by rw [HV.out]⟩
        have e0 : ((stepE d true : Int) != 0) = true := by rw [bne_iff_ne]; omega
        generalize stepE d true = E at cN HV2 e0 ⊢
        clear HV HT he hle
        go_wp2_with fail
        refine (cN _).mono ?_
        rintro e w3 ⟨rfl, b3⟩
        have HB3 : Hid (Below w2.heap.size w2 w3) := b3
        clear cN b3
        go_wp2_with fail
        go_ret
        exact ⟨by rw [HV2.out.1]; rfl, by rw [HV2.out.2]; exact did_then HD.out HB3.out⟩
    have nh3 := beq_no h3
    unfold Runs.badT at nh3

    by_cases h4 : s.data.toList = Runs.wState
    · have HV : Hid (line d s.data.toList = (stateA d, d)) := by show _ = _; rw [HL.out, if_neg h1, if_neg h2, if_neg h3, if_pos h4]
      have q4 := beq_yes h4
      unfold Runs.wState at q4
      obtain ⟨bm, v, v1, v2, g1, g2, g3, g4, g5, g6⟩ := h.core
      obtain ⟨a1, k1, rfl, _⟩ := owns_wide g3.own
      have HG : Hid (∀ w', Below w.heap.size w w' → Lay w' B bm 7 d.mir (.slice a1 d.mir.own.length k1) v2 ∧ w'.cell? ⟨b, 1, none⟩ = some (.pointer (some ⟨bm, 0, none⟩)) ∧ w'.cell? ⟨bm, 1, none⟩ = some (.slice a1 d.mir.own.length k1)) := fun w' q => ⟨g3.below q, Lists.cell_below q (g1.cell (i := 1) (by omega)), Lists.cell_below q (g3.row.cell (i := 1) (by omega))⟩
      have HRt : Hid (∀ w', Below w.heap.size w w' → Calls Tryz.prog 21 #[.pointer (some ⟨bm, 0, none⟩)] w' fun e w'' => e = .returned (.int .i64 (Mirrors.rootE d.mir.own)) ∧ Below w'.heap.size w' w'') := fun w' q => WalkMirRef.root_any (HG.out w' q).1 (Entries.ents_of hf.mir.few hf.mir.own)
      have hn := hf.mir.few
      have cT := fun w' => WalkRef.text_any (Mirrors.rootE d.mir.own) w' (Serves.root_valid d.mir.own)
      have HA : Hid (stateA d = dec d.mir.own.length ++ 32 :: text (Mirrors.rootE d.mir.own)) := rfl
      generalize Mirrors.rootE d.mir.own = R at HRt cT HA
      generalize d.mir.own.length = N at HG HA hn
      have dN := fun w' => WalkHeadRef.digits N (N : Int) w' rfl (by omega)
      have HS : Hid (str (dec N) ++ ⟨#[32]⟩ ++ str (text R) = str (stateA d)) := by
        show _ = _
        rw [HA.out]
        exact str_state _ _
      have lN : (str (dec N)).size ≤ 9 := by rw [Nums.str_size]; exact Decimals.dec_length 8 _ (by omega)
      have lR : (str (text R)).size ≤ 8 := by rw [Nums.str_size, Nums.text_length]; omega
      generalize str (dec N) = DN at dN lN HS
      generalize str (text R) = DR at cT lR HS
      have ea := fun w' : World => run_string_add_sum (P := Tryz.prog) (w := w') DN ⟨#[32]⟩ (by rw [size_blank]; omega)
      have eb := fun w' : World => run_string_add_sum (P := Tryz.prog) (w := w') (DN ++ ⟨#[32]⟩) DR (by rw [ByteArray.size_append, size_blank]; omega)
      clear h hf hV hw g1 g2 g3 g4 g5 g6 HL lift h1 h2 h3 h4 HA
      go_enter Tryz.func8, Tryz.ntmps8
      go_wp2_with fail
      refine cC.mono ?_
      rintro e w1 ⟨rfl, b1⟩
      have HB1 : Hid (Below w.heap.size w w1) := b1
      obtain ⟨-, c1, c2⟩ := HG.out w1 b1
      have cR := HRt.out w1 b1
      clear cC b1 HRt
      go_wp2_with fail
      refine (dN _).mono ?_
      rintro e w9 ⟨rfl, h9⟩
      rw [h9]
      clear h9 w9 dN
      go_wp2_with fail
      refine cR.mono ?_
      rintro e w2 ⟨rfl, b2⟩
      have HB2 : Hid (Below w.heap.size w w2) := bt HB1.out b2
      clear cR b2 c1 c2
      go_wp2_with fail
      refine (cT _).mono ?_
      rintro e w9 ⟨rfl, h9⟩
      rw [h9]
      clear h9 w9 cT
      go_wp2_with fail
      go_ret
      exact ⟨by rw [HV.out, ← HS.out]; rfl, by rw [HV.out]; exact did_same HDk.out HB2.out⟩
    have nh4 := beq_no h4
    unfold Runs.wState at nh4
    have HV : Hid (line d s.data.toList = (Runs.badT, d)) := by show _ = _; rw [HL.out, if_neg h1, if_neg h2, if_neg h3, if_neg h4]
    clear h hf hV hw HL h1 h2 h3 h4 lift
    go_enter Tryz.func8, Tryz.ntmps8
    go_wp2_with fail
    refine cC.mono ?_
    rintro e w1 ⟨rfl, b1⟩
    have HB1 : Hid (Below w.heap.size w w1) := b1
    clear cC b1
    go_wp2_with fail
    go_ret
    exact ⟨by rw [HV.out]; rfl, by rw [HV.out]; exact did_same HDk.out HB1.out⟩
  | some p =>
    obtain ⟨a, t⟩ := p
    have hV : wordV s = .tuple #[.string (str a), .string (str t), .bool true] := by unfold WalkWordRef.wordV; rw [hw]
    rw [hV] at cC
    have hts : (str t).size ≤ 1000000 := by
      obtain ⟨es, _⟩ := Runs.word_some hw
      have : s.size = a.length + 1 + t.length := by rw [← show s.data.toList.length = s.size from Array.length_toList, es, List.length_append, List.length_cons]; omega
      rw [Nums.str_size]
      omega
    have HL : Hid (line d s.data.toList = if a = Runs.wAdd then addA d t else if a = Runs.wAsk then (askA d t, d) else if a = Runs.wKey then (keyA t, d) else (Runs.badT, d)) := by show _ = _; unfold Runs.line; rw [hw]
    clear h hf hV hw
    by_cases h1 : a = Runs.wAdd
    · have q1 := beq_yes (s := str a) h1
      unfold Runs.wAdd at q1
      have HV : Hid (line d s.data.toList = addA d t) := by show _ = _; rw [HL.out, if_pos h1]
      generalize str a = A at cC q1
      clear h1 HL
      have cW := fun w' => WalkWordRef.word_any (str t) w' hts
      go_enter Tryz.func8, Tryz.ntmps8
      go_wp2_with fail
      refine cC.mono ?_
      rintro e w1 ⟨rfl, b1⟩
      have HB1 : Hid (Below w.heap.size w w1) := b1
      clear cC b1
      cases hw2 : Runs.word t with
      | none =>
        have hV2 : wordV (str t) = .tuple #[.string (str t), .string ⟨#[]⟩, .bool false] := by unfold WalkWordRef.wordV; rw [Nums.str_data, hw2]
        have HV2 : Hid (line d s.data.toList = (Runs.badT, d)) := by show _ = _; rw [HV.out]; unfold Runs.addA; rw [hw2]
        rw [hV2] at cW
        have cN := fun w' => WalkNum4.number_four (str t) w' (by unfold maxLen; omega)
        generalize WalkNum4.num4V (str t).data.toList = nv at cN
        generalize WalkNum4.num4B (str t).data.toList = nb at cN
        clear hV2 hw2 HV
        go_wp2_with fail
        refine (cW _).mono ?_
        rintro e w2 ⟨rfl, b2⟩
        have HB2 : Hid (Below w.heap.size w w2) := bt HB1.out b2
        clear cW b2
        go_wp2_with fail
        refine (cN _).mono ?_
        rintro e w9 ⟨rfl, h9⟩
        rw [h9]
        clear h9 w9 cN
        cases nb with
        | true =>
          go_wp2_with fail
          go_ret
          exact ⟨by rw [HV2.out]; rfl, by rw [HV2.out]; exact did_same HDk.out HB2.out⟩
        | false =>
          go_wp2_with fail
          go_ret
          exact ⟨by rw [HV2.out]; rfl, by rw [HV2.out]; exact did_same HDk.out HB2.out⟩
      | some p2 =>
        obtain ⟨x, y⟩ := p2
        have hV2 : wordV (str t) = .tuple #[.string (str x), .string (str y), .bool true] := by unfold WalkWordRef.wordV; rw [Nums.str_data, hw2]
        have hsz2 : x.length ≤ t.length ∧ y.length ≤ t.length := by
          obtain ⟨es, _⟩ := Runs.word_some hw2
          rw [es, List.length_append, List.length_cons]
          omega
        rw [Nums.str_size] at hts
        have cN := fun w' => WalkNum4.number_four (str x) w' (by rw [Nums.str_size]; unfold maxLen; omega)
        rw [hV2] at cW
        rw [Nums.str_data] at cN
        have HA : Hid (addA d t = match Decimals.number x 4 with | none => (Runs.badT, d) | some n => (Runs.tellE (addE d ((n : Int), str y)), if addE d ((n : Int), str y) = 0 then ⟨d.log ++ [((n : Int), str y)], d.mir⟩ else d)) := by
          show _ = _
          unfold Runs.addA
          rw [hw2]
          rfl
        have hys : (str y).size ≤ maxLen := by rw [Nums.str_size]; unfold maxLen; omega
        clear hV2 hw2 hsz2 hts
        go_wp2_with fail
        refine (cW _).mono ?_
        rintro e w2 ⟨rfl, b2⟩
        have HB2 : Hid (Below w.heap.size w w2) := bt HB1.out b2
        clear cW b2
        go_wp2_with fail
        refine (cN _).mono ?_
        rintro e w9 ⟨rfl, h9⟩
        rw [h9]
        clear h9 w9 cN
        have HNm : Hid (Decimals.number x 4 = if WalkNum4.num4B x = true then some (WalkNum4.num4V x) else none) := num4_is x
        generalize WalkNum4.num4V x = nv at HNm ⊢
        generalize WalkNum4.num4B x = nb at HNm ⊢
        cases nb with
        | false =>
          have HV2 : Hid (line d s.data.toList = (Runs.badT, d)) := by show _ = _; rw [HV.out, HA.out, HNm.out]; rfl
          clear HA HNm HV
          go_wp2_with fail
          go_ret
          exact ⟨by rw [HV2.out]; rfl, by rw [HV2.out]; exact did_same HDk.out HB2.out⟩
        | true =>
          generalize str y = T at hys HA ⊢
          have HV2 : Hid (line d s.data.toList = (Runs.tellE (addE d ((nv : Int), T)), if addE d ((nv : Int), T) = 0 then ⟨d.log ++ [((nv : Int), T)], d.mir⟩ else d)) := by show _ = _; rw [HV.out, HA.out, HNm.out]; rfl
          clear HA HNm HV
          have hsh : w2.heap.size < (w2.alloc (.cells #[.int .i64 (nv : Int), .string T] 65)).heap.size := by simp
          have bA : Below w.heap.size w (w2.alloc (.cells #[.int .i64 (nv : Int), .string T] 65)) := HB2.out.alloc HB2.out.size _
          have e0 : (w2.alloc (.cells #[.int .i64 (nv : Int), .string T] 65)).cell? ⟨w2.heap.size, 0, none⟩ = some (.int .i64 (nv : Int)) := by simp
          have e1 : (w2.alloc (.cells #[.int .i64 (nv : Int), .string T] 65)).cell? ⟨w2.heap.size, 1, none⟩ = some (.string T) := by simp
          have aE : ∀ w' : World, (isAgg 65).run Tryz.prog w' = .ok true w' := fun w' => by kernel_rfl
          have zE : ∀ w' : World, (sizeOf 65).run Tryz.prog w' = .ok 2 w' := fun w' => by kernel_rfl
          have cK := fun w' => WalkEntryRef.entry_any (nv : Int) T w' hys
          go_upto_region 28 with fail
          generalize w2.alloc (.cells #[.int .i64 (nv : Int), .string T] 65) = wA at hsh bA e0 e1 ⊢
          generalize w2.heap.size = g at hsh e0 e1 ⊢
          have HBA : Hid (Below w.heap.size w wA) := bA
          clear bA
          go_wp2_with fail
          refine (cK _).mono ?_
          rintro e w3 ⟨rfl, b3⟩
          have HB3 : Hid (Below w.heap.size w w3) := bt HBA.out b3
          have k0 := Lists.cell_below b3 e0
          have k1 := Lists.cell_below b3 e1
          have hg3 : g < w3.heap.size := Nat.lt_of_lt_of_le hsh b3.size
          clear b3 e0 e1 cK HB2 HBA hsh
          by_cases he : entE ((nv : Int), T) = 0
          rotate_left
          · have hx : addE d ((nv : Int), T) = entE ((nv : Int), T) := if_neg he
            have HT : Hid (line d s.data.toList = (Runs.name (entE ((nv : Int), T)), d)) := by
              show _ = _
              rw [HV2.out, hx, if_neg he]
              unfold Runs.tellE
              rw [if_neg he]
            have cN := fun w' => WalkWordRef.name_any (entE ((nv : Int), T)) w' (RunLess.ent_le _)
            have i0 : ((entE ((nv : Int), T) : Int) == 0) = false := by rw [beq_eq_false_iff_ne]; omega
            have i1 : ((entE ((nv : Int), T) : Int) != 0) = true := by rw [bne_iff_ne]; omega
            generalize entE ((nv : Int), T) = E at cN i0 i1 HT ⊢
            clear k0 k1 hx he HV2
            go_wp2_with fail
            refine (cN _).mono ?_
            rintro e w4 ⟨rfl, b4⟩
            have HB4 : Hid (Below w.heap.size w w4) := bt HB3.out b4
            clear cN b4
            go_wp2_with fail
            go_ret
            exact ⟨by rw [HT.out]; rfl, by rw [HT.out]; exact did_same HDk.out HB4.out⟩
          · rw [he]
            have hDk3 := HDk.out.below HB3.out
            obtain ⟨bm, v, v1, v2, g1, g2, g3, g4, g5, g6⟩ := hDk3.core
            obtain ⟨av, cv, rfl, _⟩ := owns_wide g2
            have c0 : w3.cell? ⟨b, 0, none⟩ = some (.slice av d.log.length cv) := g1.cell (i := 0) (by omega)
            have hbl := g1.lt
            have hl200 := Runs.few HFi.out
            have i0 : (((0 : Nat) : Int) == 0) = true := rfl
            have i1 : (((0 : Nat) : Int) != 0) = false := rfl
            by_cases hN : d.log.length = 200
            · have hx : addE d ((nv : Int), T) = 4 := by unfold Runs.addE; rw [if_pos he, if_pos (by omega)]
              have HT : Hid (line d s.data.toList = (Runs.name 4, d)) := by
                show _ = _
                rw [HV2.out, hx, if_neg (by decide)]
                rfl
              have cN := fun w' => WalkWordRef.name_any 4 w' (by decide)
              rw [hN] at c0
              clear g1 g2 g3 g4 g5 g6 k0 k1 he hN hx hDk3 HV2
              go_wp2_with fail
              refine (cN _).mono ?_
              rintro e w4 ⟨rfl, b4⟩
              have HB4 : Hid (Below w.heap.size w w4) := bt HB3.out b4
              clear cN b4
              go_wp2_with fail
              go_ret
              exact ⟨by rw [HT.out]; rfl, by rw [HT.out]; exact did_same HDk.out HB4.out⟩
            · have hx : addE d ((nv : Int), T) = 0 := by unfold Runs.addE; rw [if_pos he, if_neg (by omega)]
              have HT : Hid (line d s.data.toList = (Runs.okT, ⟨d.log ++ [((nv : Int), T)], d.mir⟩)) := by
                show _ = _
                rw [HV2.out, hx, if_pos rfl]
                rfl
              have hBw : B ≤ w3.heap.size := Nat.le_trans hB HB3.out.size
              have hlt : ¬ (d.log.length : Int) ≥ 200 := by omega
              have hlt2 : ¬ (200 : Int) ≤ (d.log.length : Int) := by omega
              have wnew : Wide 2 (w3.drew.alloc (.cells #[.int .i64 (nv : Int), .string T] 65)) (some ⟨w3.heap.size, 0, none⟩) 1 1 (cells [((nv : Int), T)]) := ⟨rfl, Nat.le_refl _, fun _ => ⟨w3.heap.size, 0, rfl, fun j u hj => by
                have := cell_two_new w3.drew (.int .i64 (nv : Int)) (.string T) 65 j u hj
                rw [show (⟨w3.drew.heap.size, 0, none⟩ : Addr).add j = ⟨w3.heap.size, 0 + j, none⟩ by unfold Addr.add; split <;> simp_all] at this
                exact this⟩⟩
              have o5 := owns_kept g2 (((Kept.refl (fun _ => False) w3).drew).alloc (.cells #[.int .i64 (nv : Int), .string T] 65)) fun _ _ q => q
              obtain ⟨vn, wn, rn, on, kn, fn⟩ := WalkMirRef.run_some (w3.drew.alloc (.cells #[.int .i64 (nv : Int), .string T] 65)) B (.slice av d.log.length cv) d.log o5 ⟨w3.heap.size, 0, none⟩ 1 1 [((nv : Int), T)] wnew (by omega) (by omega) (by simp; omega)
              have kA : Kept (fun k => (Value.slice av d.log.length cv).ownBlock = some k) w3 wn := (((Kept.refl _ w3).drew).alloc _).trans kn fun i q => .inl q
              have rown := g1.of_block (kA.block b g1.lt g4)
              have z0 : wn.cell? ⟨b, 0, none⟩ = some (.slice av d.log.length cv) := rown.cell (i := 0) (by omega)
              have zf := rown.frozen 0
              have xA : (w3.alloc (.cells #[.int .i64 (nv : Int), .string T] 65)).cell? ⟨b, 0, none⟩ = some (.slice av d.log.length cv) := (World.cell?_alloc_lt _ _ ⟨b, 0, none⟩ hbl).trans c0
              have hLeft : Did w3 (wn.setCell ⟨b, 0, none⟩ vn) B b F ⟨d.log ++ [((nv : Int), T)], d.mir⟩ := by
                refine dk_log hDk3.above ((nv : Int), T) g1 g3 g5 g4 g6 rown ?_ ?_ kA
                · rw [cells_append, List.length_append] at on
                  exact on
                · rcases on.2 with ⟨h, h0⟩ | ⟨gn, cap, cur, h, hgb, _⟩
                  · simp at h0
                  · rcases fn gn (by rw [h]; rfl) with e | e
                    · exact .inl (by rw [h, e]; rfl)
                    · exact .inr ⟨gn, by rw [h]; rfl, by rw [e, World.size_alloc]; show w3.heap.size ≤ _; simp⟩
              obtain ⟨N5, hN5⟩ : ∃ N5, N5 = (d.log ++ [((nv : Int), T)]).length := ⟨_, rfl⟩
              rw [← hN5] at on
              clear hN5
              obtain ⟨an, cn, rfl, _⟩ := owns_wide on
              have HFin : Hid (Did w (wn.setCell ⟨b, 0, none⟩ (.slice an N5 cn)) B b F ⟨d.log ++ [((nv : Int), T)], d.mir⟩) := by
                obtain ⟨⟨F', q1, q2⟩, q3⟩ := hLeft
                exact ⟨⟨F', q1, fun i hi => (q2 i hi).imp id fun q => Nat.le_trans HB3.out.size q⟩, (Kept.of_below F HB3.out).trans q3 fun i hi => .inl hi⟩
              clear wnew o5 on kn fn kA rown hLeft g1 g2 g3 g4 g5 g6 he hx hN hl200 hDk3 HV2
              generalize d.log.length = N at *
              go_upto_region 33 with fail
              go_region_law (refine WalkMirHear.step_append_run rfl (.tmp 132) (.tmp 134) 27 27 rfl (.slice av N cv) (.slice (some ⟨w3.heap.size, 0, none⟩) 1 1) (by simp [Act.eval]) (by simp [Act.eval]) _ _ rn ?_)
              all_goals
                go_wp2_with fail
                go_ret
                exact ⟨by rw [HT.out]; rfl, by rw [HT.out]; exact HFin.out⟩
    have n1 := beq_no (s := str a) h1
    unfold Runs.wAdd at n1
    by_cases h2 : a = Runs.wAsk
    · have q2 := beq_yes (s := str a) h2
      unfold Runs.wAsk at q2
      have HV : Hid (line d s.data.toList = (askA d t, d)) := by show _ = _; rw [HL.out, if_neg h1, if_pos h2]
      generalize str a = A at cC n1 q2
      clear h1 h2 HL
      have HAs : Hid (askA d t = if (answer d.log 7 0 t).2 = 0 then (answer d.log 7 0 t).1 else Runs.name (answer d.log 7 0 t).2) := rfl
      have hle := RunLess.answer_le d.log 7 0 t
      go_enter Tryz.func8, Tryz.ntmps8
      go_wp2_with fail
      refine cC.mono ?_
      rintro e w1 ⟨rfl, b1⟩
      have HB1 : Hid (Below w.heap.size w w1) := b1
      obtain ⟨al, cl, c0, hwl⟩ := log_any (HDk.out.below b1)
      have hbl : b < w1.heap.size := Lists.block_lt c0
      have cW := WalkAnswerRef.answer_any d.log al d.log.length cl 7 0 (str t) w1 hwl (sized HFi.out.log) (by omega)
      rw [Nums.str_data] at cW
      generalize (answer d.log 7 0 t).1 = T1 at cW HAs
      generalize (answer d.log 7 0 t).2 = E at cW HAs hle
      clear cC b1 hwl
      go_wp2_with fail
      refine cW.mono ?_
      rintro e w2 ⟨rfl, b2⟩
      have HB2 : Hid (Below w.heap.size w w2) := bt HB1.out b2
      clear cW b2 c0
      by_cases he : E = 0
      · subst he
        have e0 : (((0 : Nat) : Int) != 0) = false := rfl
        go_wp2_with fail
        go_ret
        exact ⟨by rw [HV.out, HAs.out]; rfl, by rw [HV.out]; exact did_same HDk.out HB2.out⟩
      · have HT : Hid (askA d t = Runs.name E) := by show _ = _; rw [HAs.out, if_neg he]
        have cN := fun w' => WalkWordRef.name_any E w' hle
        have e0 : ((E : Int) != 0) = true := by rw [bne_iff_ne]; omega
        clear he hle HAs
        go_wp2_with fail
        refine (cN _).mono ?_
        rintro e w3 ⟨rfl, b3⟩
        have HB3 : Hid (Below w.heap.size w w3) := bt HB2.out b3
        clear cN b3
        go_wp2_with fail
        go_ret
        exact ⟨by rw [HV.out, HT.out]; rfl, by rw [HV.out]; exact did_same HDk.out HB3.out⟩
    have n2 := beq_no (s := str a) h2
    unfold Runs.wAsk at n2
    by_cases h3 : a = Runs.wKey
    · have q3 := beq_yes (s := str a) h3
      unfold Runs.wKey at q3
      have HV : Hid (line d s.data.toList = (keyA t, d)) := by show _ = _; rw [HL.out, if_neg h1, if_neg h2, if_pos h3]
      generalize str a = A at cC n1 n2 q3
      clear h1 h2 h3 HL
      have HK : Hid (keyA t = if Stores.keyE (str t) = 0 then KeyTrees.bitsT (KeyTrees.spot (str t)) else Runs.name (Stores.keyE (str t))) := rfl
      have cK := fun w' => key_any (str t) w'
      have cB := fun w' => WalkSpotRef.bits_any (str t) w' (by unfold maxLen; omega)
      have hle := RunLess.key_le (str t)
      generalize KeyTrees.bitsT (KeyTrees.spot (str t)) = T1 at cB HK
      generalize Stores.keyE (str t) = E at cK HK hle
      go_enter Tryz.func8, Tryz.ntmps8
      go_wp2_with fail
      refine cC.mono ?_
      rintro e w1 ⟨rfl, b1⟩
      have HB1 : Hid (Below w.heap.size w w1) := b1
      clear cC b1
      go_wp2_with fail
      refine (cK _).mono ?_
      rintro e w9 ⟨rfl, h9⟩
      rw [h9]
      clear h9 w9 cK
      by_cases he : E = 0
      · subst he
        have e0 : (((0 : Nat) : Int) != 0) = false := rfl
        go_wp2_with fail
        refine (cB _).mono ?_
        rintro e w9 ⟨rfl, h9⟩
        rw [h9]
        clear h9 w9 cB
        go_wp2_with fail
        go_ret
        exact ⟨by rw [HV.out, HK.out]; rfl, by rw [HV.out]; exact did_same HDk.out HB1.out⟩
      · have HT : Hid (keyA t = Runs.name E) := by show _ = _; rw [HK.out, if_neg he]
        have cN := fun w' => WalkWordRef.name_any E w' hle
        have e0 : ((E : Int) != 0) = true := by rw [bne_iff_ne]; omega
        clear he hle HK cB
        go_wp2_with fail
        refine (cN _).mono ?_
        rintro e w3 ⟨rfl, b3⟩
        have HB3 : Hid (Below w.heap.size w w3) := bt HB1.out b3
        clear cN b3
        go_wp2_with fail
        go_ret
        exact ⟨by rw [HV.out, HT.out]; rfl, by rw [HV.out]; exact did_same HDk.out HB3.out⟩
    have n3 := beq_no (s := str a) h3
    unfold Runs.wKey at n3
    have HV : Hid (line d s.data.toList = (Runs.badT, d)) := by show _ = _; rw [HL.out, if_neg h1, if_neg h2, if_neg h3]
    generalize str a = A at cC n1 n2 n3
    clear h1 h2 h3 HL
    go_enter Tryz.func8, Tryz.ntmps8
    go_wp2_with fail
    refine cC.mono ?_
    rintro e w1 ⟨rfl, b1⟩
    have HB1 : Hid (Below w.heap.size w w1) := b1
    clear cC b1
    go_wp2_with fail
    go_ret
    exact ⟨by rw [HV.out]; rfl, by rw [HV.out]; exact did_same HDk.out HB1.out⟩

end Go.Proofs.YtfpkngpgmllhnaaGreatDoor.WalkLineRef

/-
  The law RunAnswers: the program's answers are the document's, line by line.
-/
set_option maxRecDepth 100000
namespace Go.Proofs.YtfpkngpgmllhnaaGreatDoor.WalkRunAnswers
open Go.RowKit
open Keeps (Kept owns_row)
open Lists (bt strs Row)
open Decimals (words)
open WalkHdLib (Tabs)
open WalkSeNum (Syn)
open WalkTold (Laid)
open Nums (str)
open Runs (runL runD line)
open RunDoc (Dk)

/-- after K lines -/
def At (w2 : World) (b : Nat) (LL : List (List UInt8)) (K : Nat) (wr : World) : Prop := ∃ F, Dk wr w2.heap.size b F (runD Runs.fresh (LL.take K)) ∧ Below w2.heap.size w2 wr
theorem take_more {LL : List (List UInt8)} {K : Nat} {x : List UInt8} (hx : LL[K]? = some x) : LL.take (K + 1) = LL.take K ++ [x] := by
  obtain ⟨h, rfl⟩ := List.getElem?_eq_some_iff.1 hx
  exact List.take_succ_eq_append_getElem h
theorem at_next {w2 wr w' : World} {b : Nat} {LL : List (List UInt8)} {K : Nat} {x : List UInt8} {F : Nat → Prop} (hx : LL[K]? = some x) (h1 : Dk wr w2.heap.size b F (runD Runs.fresh (LL.take K))) (h2 : Below w2.heap.size w2 wr) (h : WalkStepRef.Did wr w' w2.heap.size b F (line (runD Runs.fresh (LL.take K)) x).2) : At w2 b LL (K + 1) w' := by
  obtain ⟨⟨F', g1, _⟩, g3⟩ := h
  refine ⟨F', ?_, h2.trans (g3.below (fun k hk => (h1.foot k hk).1) h2.size)⟩
  rw [take_more hx, RunLens.runD_snoc]
  exact g1
/-- a desk, new -/
theorem desk_new (w : World) : Dk ((w.alloc (.cells #[.int .i64 7, .slice none 0 0, .int .i64 0, .int .i64 0, .int .i64 0, .int .i64 0, .int .i64 0, .int .i64 0, .int .i64 0, .int .i64 0, .slice none 0 0] 31)).alloc (.cells #[.slice none 0 0, .pointer (some ⟨w.heap.size, 0, none⟩)] 33)) w.heap.size (w.heap.size + 1) (fun k => k = w.heap.size + 1 ∨ (Value.slice none 0 0).ownBlock = some k ∨ MirDoc.foot w.heap.size (.slice none 0 0) (.slice none 0 0) k) Runs.fresh := by
  have hl : MirDoc.Lay (w.alloc (.cells #[.int .i64 7, .slice none 0 0, .int .i64 0, .int .i64 0, .int .i64 0, .int .i64 0, .int .i64 0, .int .i64 0, .int .i64 0, .int .i64 0, .slice none 0 0] 31)) w.heap.size w.heap.size 7 Mirrors.start (.slice none 0 0) (.slice none 0 0) := by
    refine ⟨World.rowIs_alloc _ _ _ _ ?_, World.ownsRow_nil _ _ _ _, World.ownsRow_nil _ _ _ _, Nat.le_refl _, by simp [Value.ownBlock], by simp [Value.ownBlock], fun k q => by simp [Value.ownBlock] at q⟩
    intro j hj
    match j, hj with
    | 0, _ | 1, _ | 2, _ | 3, _ | 4, _ | 5, _ | 6, _ | 7, _ | 8, _ | 9, _ | 10, _ => rfl
    | j + 11, h => simp at h; omega
  have b2 : Below (w.alloc (.cells #[.int .i64 7, .slice none 0 0, .int .i64 0, .int .i64 0, .int .i64 0, .int .i64 0, .int .i64 0, .int .i64 0, .int .i64 0, .int .i64 0, .slice none 0 0] 31)).heap.size (w.alloc (.cells #[.int .i64 7, .slice none 0 0, .int .i64 0, .int .i64 0, .int .i64 0, .int .i64 0, .int .i64 0, .int .i64 0, .int .i64 0, .int .i64 0, .slice none 0 0] 31)) ((w.alloc (.cells #[.int .i64 7, .slice none 0 0, .int .i64 0, .int .i64 0, .int .i64 0, .int .i64 0, .int .i64 0, .int .i64 0, .int .i64 0, .int .i64 0, .slice none 0 0] 31)).alloc (.cells #[.slice none 0 0, .pointer (some ⟨w.heap.size, 0, none⟩)] 33)) := (Below.refl _ _).alloc (Nat.le_refl _) _
  refine ⟨⟨w.heap.size, .slice none 0 0, .slice none 0 0, .slice none 0 0, ?_, World.ownsRow_nil _ _ _ _, hl.below b2, by simp [Value.ownBlock], fun k hk => ⟨?_, by simp [Value.ownBlock]⟩, fun _ => Iff.rfl⟩, by omega⟩
  · have := World.rowIs_alloc (w.alloc (.cells #[.int .i64 7, .slice none 0 0, .int .i64 0, .int .i64 0, .int .i64 0, .int .i64 0, .int .i64 0, .int .i64 0, .int .i64 0, .int .i64 0, .slice none 0 0] 31)) #[.slice none 0 0, .pointer (some ⟨w.heap.size, 0, none⟩)] 33 (RunDoc.two (.slice none 0 0) (.pointer (some ⟨w.heap.size, 0, none⟩))) (by intro i hi; match i, hi with | 0, _ => rfl | 1, _ => rfl)
    rw [World.size_alloc] at this
    exact this
  · have := (hl.foot_lt k hk).2
    simp at this
    omega

set_option maxHeartbeats 16000000 in
theorem walk (t : ByteArray) (_ : t.size ≤ 140737488351232) (w : World) (hL : Laid w) (hK : Tabs w) (hY : Syn w) :
    Calls Tryz.prog 3 #[.string t] w fun e w' => e = .returned (.bool true) ∧ Below w.heap.size w w' := by
  have hsz : t.data.toList.length = t.size := Array.length_toList
  have cR := WalkRuRun.run_any t w hK hY hL
  clear hL hK hY
  by_cases h3 : 3000 < t.size
  · have i1 : (t.size : Int) > 3000 := by omega
    have i2 : (3000 : Int) < (t.size : Int) := i1
    have e3 : str (Runs.run t.data.toList) = ⟨#[116, 111, 111, 32, 108, 111, 110, 103, 10]⟩ := by
      rw [show Runs.run t.data.toList = Runs.longT from if_pos (by omega)]
      rfl
    rw [e3] at cR
    clear h3 hsz e3
    go_enter Tryz.func3, Tryz.ntmps3
    go_wp2_with fail
    refine cR.mono ?_
    rintro e w1 ⟨rfl, b1⟩
    have HB1 : Hid (Below w.heap.size w w1) := b1
    clear cR b1
    go_wp2_with fail
    go_ret
    exact ⟨rfl, HB1.out⟩
  · have i1 : ¬ (t.size : Int) > 3000 := by omega
    have i2 : ¬ (3000 : Int) < (t.size : Int) := i1
    have ht3 : t.size ≤ 3000 := by omega
    rw [show Runs.run t.data.toList = runL Runs.fresh (Runs.lines t.data.toList) from if_neg (by omega)] at cR
    go_enter Tryz.func3, Tryz.ntmps3
    go_wp2_with fail
    refine cR.mono ?_
    rintro e w1 ⟨rfl, b1⟩
    have HB1 : Hid (Below w.heap.size w w1) := b1
    have cC := WalkNumberRef.cut_any t 10 w1 (by omega)
    have hwl := WalkAnswerRef.words_len 10 t.data.toList
    have hwn := Decimals.words_ne 10 t.data.toList
    have HTr : Hid (Runs.lines t.data.toList = Runs.trim (words 10 t.data.toList)) := rfl
    rw [hsz] at hwl
    generalize words 10 t.data.toList = L at cC hwl hwn HTr
    clear cR b1 h3
    go_wp2_with fail
    refine cC.mono ?_
    rintro e w2 ⟨v2, rfl, o2, b2⟩
    obtain ⟨a2, c2, rfl, hr2, _⟩ := owns_row o2
    have hpos : 0 < L.length := List.length_pos_iff.2 hwn
    obtain ⟨ga, oa, rfl, _⟩ := hr2.2.2 hpos
    have hcap := hr2.2.1
    have HB2 : Hid (Below w.heap.size w w2) := bt HB1.out b2
    obtain ⟨M, hM⟩ : ∃ M, L.length = M + 1 := ⟨L.length - 1, by omega⟩
    obtain ⟨x, hx⟩ : ∃ x, L[M]? = some x := ⟨_, List.getElem?_eq_getElem (by omega)⟩
    have hgl : L.getLast? = some x := by rw [List.getLast?_eq_getElem?, hM]; exact hx
    have q0 : w2.cell? ⟨ga, oa + M, none⟩ = some (.string (str x)) := hr2.at M _ (by unfold strs; rw [List.getElem?_map, List.getElem?_map, hx]; rfl)
    have HR2 : Hid (Row w2 (some ⟨ga, oa, none⟩) L.length c2 (strs (L.map str))) := hr2
    clear cC b2 o2 hr2 HB1
    obtain ⟨N, hN⟩ : ∃ N, L.length = N := ⟨_, rfl⟩
    have HN : Hid (L.length = N) := hN
    rw [hN] at hM hcap hwl ⊢
    have wm : IntKind.i64.wrap ((N : Int) - 1) = (M : Int) := by rw [IntKind.wrap_i64]; omega
    have m0 : (0 : Int) ≤ (M : Int) := by omega
    have m1 : (M : Int) < (N : Int) := by omega
    have m2 : (M : Int) ≤ (c2 : Int) := by omega
    have hx2 : (str x).data.toList = x := rfl
    by_cases hx0 : x = []
    · have qe : ((str x).toList == []) = true := WalkLineRef.beq_yes (by rw [hx2, hx0])
      have HLi : ∃ LL, Runs.lines t.data.toList = LL ∧ LL = L.take M := ⟨_, rfl, by rw [HTr.out]; unfold Runs.trim; rw [hgl, if_pos (by rw [hx0]), List.dropLast_eq_take, HN.out, hM]; rfl⟩
      obtain ⟨LL, hLi, hLL⟩ := HLi
      have HLi : Hid (Runs.lines t.data.toList = LL) := hLi
      have HLn : Hid (LL.length = M) := by
        show _ = _
        rw [hLL, List.length_take, HN.out]
        omega
      have HSm : Hid (∀ x ∈ LL, x.length ≤ 3000) := fun x hx => by
        have := hwl.2 x (by rw [hLL] at hx; exact List.mem_of_mem_take hx)
        omega
      have HRow : Hid (Row w2 (some ⟨ga, oa, none⟩) M c2 (strs (LL.map str))) := by
        show Row _ _ _ _ _
        have := HR2.out.take M (by have := HN.out; omega)
        rw [hLL, List.map_take, Lists.strs_take]
        exact this
      have hMl : M ≤ 3001 := by omega
      clear hLi hLL hgl hx hx2 hx0 hwl hwn HTr HR2 hN HN hpos
      generalize str x = sx at q0 qe
      go_upto_region 7 with fail
      clear q0 qe wm m1
      · go_upto_region 9 with fail
        have hs3 : ((w2.alloc (.cells #[.int .i64 7, .slice none 0 0, .int .i64 0, .int .i64 0, .int .i64 0, .int .i64 0, .int .i64 0, .int .i64 0, .int .i64 0, .int .i64 0, .slice none 0 0] 31)).alloc (.cells #[.slice none 0 0, .pointer (some ⟨w2.heap.size, 0, none⟩)] 33)).heap.size = w2.heap.size + 2 := by simp
        have hD0 := desk_new w2
        have b23 : Below w2.heap.size w2 ((w2.alloc (.cells #[.int .i64 7, .slice none 0 0, .int .i64 0, .int .i64 0, .int .i64 0, .int .i64 0, .int .i64 0, .int .i64 0, .int .i64 0, .int .i64 0, .slice none 0 0] 31)).alloc (.cells #[.slice none 0 0, .pointer (some ⟨w2.heap.size, 0, none⟩)] 33)) := ((Below.refl _ _).alloc (Nat.le_refl _) _).alloc (by simp) _
        generalize (w2.alloc (.cells #[.int .i64 7, .slice none 0 0, .int .i64 0, .int .i64 0, .int .i64 0, .int .i64 0, .int .i64 0, .int .i64 0, .int .i64 0, .int .i64 0, .slice none 0 0] 31)).alloc (.cells #[.slice none 0 0, .pointer (some ⟨w2.heap.size, 0, none⟩)] 33) = w3 at hs3 hD0 b23 ⊢
        have HStart : Hid (At w2 (w2.heap.size + 1) LL 0 w3) := ⟨_, hD0, b23⟩
        clear hD0 b23 hs3
        go_wp2_with fail
        go_loopw [6, 7, 8] (fun s i _ wr => ∃ K : Nat, K ≤ M ∧ i = .int .i64 (K : Int) ∧ s = .string (str (runL Runs.fresh (LL.take K))) ∧ Hid (At w2 (w2.heap.size + 1) LL K wr)) (fun _ i _ _ => M - (intOf i).toNat)
        case atStart => exact ⟨0, Nat.zero_le _, rfl, rfl, HStart⟩
        case round =>
          obtain ⟨K, hK, rfl, rfl, hA⟩ := hrel
          clear HStart
          by_cases hlt : K < M
          · have i5 : (K : Int) < (M : Int) := by omega
            have i6 : (0 : Int) ≤ (K : Int) := by omega
            have wk : IntKind.i64.wrap ((K : Int) + 1) = (K : Int) + 1 := by rw [IntKind.wrap_i64]; omega
            obtain ⟨x, hx, hx3⟩ : ∃ x, LL[K]? = some x ∧ x.length ≤ 3000 := by
              have e := List.getElem?_eq_getElem (show K < LL.length by have := HLn.out; omega)
              exact ⟨_, e, HSm.out _ (List.getElem_mem _)⟩
            obtain ⟨Fd, hdk, hbl⟩ := hA.out
            have q0 : wr.cell? ⟨ga, oa + K, none⟩ = some (.string (str x)) := (HRow.out.below hbl).at K _ (by unfold strs; rw [List.getElem?_map, List.getElem?_map, hx]; rfl)
            have hf := RunLens.runD_fine (LL.take K) Runs.fresh_fine
            have cL := WalkLineRef.line_any hdk hf hbl.size (str x) (by rw [Nums.str_size]; omega)
            rw [show (str x).data.toList = x from rfl] at cL
            have HNx : Hid (∀ w', WalkStepRef.Did wr w' w2.heap.size (w2.heap.size + 1) Fd (line (runD Runs.fresh (LL.take K)) x).2 → At w2 (w2.heap.size + 1) LL (K + 1) w') := fun w' hd => at_next hx hdk hbl hd
            have hr1 := RunLens.runL_len (LL.take K) Runs.fresh_fine
            have hr2 := RunLens.line_len hf x
            have hr3 : (LL.take K).length ≤ 3001 := by rw [List.length_take]; have := HLn.out; omega
            have HV1 : Hid (str (runL Runs.fresh (LL.take (K + 1))) = str (runL Runs.fresh (LL.take K)) ++ str (line (runD Runs.fresh (LL.take K)) x).1 ++ ⟨#[10]⟩) := by
              show _ = _
              rw [take_more hx, RunLens.runL_snoc, ← Nums.str_append, ← Nums.str_append]
              rfl
            have hsa : (str (runL Runs.fresh (LL.take K))).size ≤ 6001 * 3001 := by rw [Nums.str_size]; omega
            have hsb : (str (line (runD Runs.fresh (LL.take K)) x).1).size ≤ 6000 := by rw [Nums.str_size]; omega
            clear hdk hbl hf hr1 hr2 hr3 hx hx3 hA
            generalize str (line (runD Runs.fresh (LL.take K)) x).1 = SB at cL HV1 hsb
            generalize str (runL Runs.fresh (LL.take K)) = SA at HV1 hsa ⊢
            have ea := fun w' : World => run_string_add_sum (P := Tryz.prog) (w := w') SA SB (by omega)
            have eb := fun w' : World => run_string_add_sum (P := Tryz.prog) (w := w') (SA ++ SB) ⟨#[10]⟩ (by rw [ByteArray.size_append]; show _ + 1 ≤ _; omega)
            generalize line (runD Runs.fresh (LL.take K)) x = LX at cL HNx
            clear hsa hsb
            go_wp2_with fail
            refine cL.mono ?_
            rintro e w5 ⟨rfl, hd5⟩
            have HA5 : Hid (At w2 (w2.heap.size + 1) LL (K + 1) w5) := HNx.out w5 hd5
            clear cL hd5 HNx q0
            go_wp2_with fail
            go_roundw
            case rel => exact ⟨K + 1, by omega, by go_num, by rw [HV1.out], HA5⟩
            case measure => simp [intOf]; omega
          · have i5 : ¬ (K : Int) < (M : Int) := by omega
            obtain rfl : M = K := by omega
            have HV2 : Hid (runL Runs.fresh (LL.take M) = runL Runs.fresh (Runs.lines t.data.toList)) := by
              show _ = _
              rw [HLi.out, ← HLn.out, List.take_length]
            rw [HV2.out]
            generalize str (runL Runs.fresh (Runs.lines t.data.toList)) = SR
            have eq1 : (SR.toList == SR.toList) = true := beq_self_eq_true _
            obtain ⟨_, _, hbl⟩ := hA.out
            have HB : Hid (Below w.heap.size w wr) := HB2.out.trans (hbl.mono HB2.out.size)
            clear hA hbl
            go_wp2_with fail
            go_ret
            exact ⟨rfl, HB.out⟩
    · have qe : ((str x).toList == []) = false := WalkLineRef.beq_no (by rw [hx2]; exact hx0)
      have HLi : Hid (Runs.lines t.data.toList = L) := by
        show _ = _
        rw [HTr.out]
        unfold Runs.trim
        rw [hgl, if_neg (by intro e; injection e with e; exact hx0 e)]
      have HLn : Hid (L.length = N) := HN.out
      have HSm : Hid (∀ x ∈ L, x.length ≤ 3000) := fun x hx => by have := hwl.2 x hx; omega
      have HRow : Hid (Row w2 (some ⟨ga, oa, none⟩) N c2 (strs (L.map str))) := by
        show Row _ _ _ _ _
        have := HR2.out
        rw [HN.out] at this
        exact this
      have hMl : N ≤ 3001 := by omega
      clear hgl hx hx2 hx0 hwl hwn HTr HR2 hN HN hpos
      generalize str x = sx at q0 qe
      go_upto_region 7 with fail
      clear q0 qe wm m0 m1 m2
      · go_upto_region 9 with fail
        have hs3 : ((w2.alloc (.cells #[.int .i64 7, .slice none 0 0, .int .i64 0, .int .i64 0, .int .i64 0, .int .i64 0, .int .i64 0, .int .i64 0, .int .i64 0, .int .i64 0, .slice none 0 0] 31)).alloc (.cells #[.slice none 0 0, .pointer (some ⟨w2.heap.size, 0, none⟩)] 33)).heap.size = w2.heap.size + 2 := by simp
        have hD0 := desk_new w2
        have b23 : Below w2.heap.size w2 ((w2.alloc (.cells #[.int .i64 7, .slice none 0 0, .int .i64 0, .int .i64 0, .int .i64 0, .int .i64 0, .int .i64 0, .int .i64 0, .int .i64 0, .int .i64 0, .slice none 0 0] 31)).alloc (.cells #[.slice none 0 0, .pointer (some ⟨w2.heap.size, 0, none⟩)] 33)) := ((Below.refl _ _).alloc (Nat.le_refl _) _).alloc (by simp) _
        generalize (w2.alloc (.cells #[.int .i64 7, .slice none 0 0, .int .i64 0, .int .i64 0, .int .i64 0, .int .i64 0, .int .i64 0, .int .i64 0, .int .i64 0, .int .i64 0, .slice none 0 0] 31)).alloc (.cells #[.slice none 0 0, .pointer (some ⟨w2.heap.size, 0, none⟩)] 33) = w3 at hs3 hD0 b23 ⊢
        have HStart : Hid (At w2 (w2.heap.size + 1) L 0 w3) := ⟨_, hD0, b23⟩
        clear hD0 b23 hs3
        go_wp2_with fail
        go_loopw [6, 7, 8] (fun s i _ wr => ∃ K : Nat, K ≤ N ∧ i = .int .i64 (K : Int) ∧ s = .string (str (runL Runs.fresh (L.take K))) ∧ Hid (At w2 (w2.heap.size + 1) L K wr)) (fun _ i _ _ => N - (intOf i).toNat)
        case atStart => exact ⟨0, Nat.zero_le _, rfl, rfl, HStart⟩
        case round =>
          obtain ⟨K, hK, rfl, rfl, hA⟩ := hrel
          clear HStart
          by_cases hlt : K < N
          · have i5 : (K : Int) < (N : Int) := by omega
            have i6 : (0 : Int) ≤ (K : Int) := by omega
            have wk : IntKind.i64.wrap ((K : Int) + 1) = (K : Int) + 1 := by rw [IntKind.wrap_i64]; omega
            obtain ⟨x, hx, hx3⟩ : ∃ x, L[K]? = some x ∧ x.length ≤ 3000 := by
              have e := List.getElem?_eq_getElem (show K < L.length by have := HLn.out; omega)
              exact ⟨_, e, HSm.out _ (List.getElem_mem _)⟩
            obtain ⟨Fd, hdk, hbl⟩ := hA.out
            have q0 : wr.cell? ⟨ga, oa + K, none⟩ = some (.string (str x)) := (HRow.out.below hbl).at K _ (by unfold strs; rw [List.getElem?_map, List.getElem?_map, hx]; rfl)
            have hf := RunLens.runD_fine (L.take K) Runs.fresh_fine
            have cL := WalkLineRef.line_any hdk hf hbl.size (str x) (by rw [Nums.str_size]; omega)
            rw [show (str x).data.toList = x from rfl] at cL
            have HNx : Hid (∀ w', WalkStepRef.Did wr w' w2.heap.size (w2.heap.size + 1) Fd (line (runD Runs.fresh (L.take K)) x).2 → At w2 (w2.heap.size + 1) L (K + 1) w') := fun w' hd => at_next hx hdk hbl hd
            have hr1 := RunLens.runL_len (L.take K) Runs.fresh_fine
            have hr2 := RunLens.line_len hf x
            have hr3 : (L.take K).length ≤ 3001 := by rw [List.length_take]; have := HLn.out; omega
            have HV1 : Hid (str (runL Runs.fresh (L.take (K + 1))) = str (runL Runs.fresh (L.take K)) ++ str (line (runD Runs.fresh (L.take K)) x).1 ++ ⟨#[10]⟩) := by
              show _ = _
              rw [take_more hx, RunLens.runL_snoc, ← Nums.str_append, ← Nums.str_append]
              rfl
            have hsa : (str (runL Runs.fresh (L.take K))).size ≤ 6001 * 3001 := by rw [Nums.str_size]; omega
            have hsb : (str (line (runD Runs.fresh (L.take K)) x).1).size ≤ 6000 := by rw [Nums.str_size]; omega
            clear hdk hbl hf hr1 hr2 hr3 hx hx3 hA
            generalize str (line (runD Runs.fresh (L.take K)) x).1 = SB at cL HV1 hsb
            generalize str (runL Runs.fresh (L.take K)) = SA at HV1 hsa ⊢
            have ea := fun w' : World => run_string_add_sum (P := Tryz.prog) (w := w') SA SB (by omega)
            have eb := fun w' : World => run_string_add_sum (P := Tryz.prog) (w := w') (SA ++ SB) ⟨#[10]⟩ (by rw [ByteArray.size_append]; show _ + 1 ≤ _; omega)
            generalize line (runD Runs.fresh (L.take K)) x = LX at cL HNx
            clear hsa hsb
            go_wp2_with fail
            refine cL.mono ?_
            rintro e w5 ⟨rfl, hd5⟩
            have HA5 : Hid (At w2 (w2.heap.size + 1) L (K + 1) w5) := HNx.out w5 hd5
            clear cL hd5 HNx q0
            go_wp2_with fail
            go_roundw
            case rel => exact ⟨K + 1, by omega, by go_num, by rw [HV1.out], HA5⟩
            case measure => simp [intOf]; omega
          · have i5 : ¬ (K : Int) < (N : Int) := by omega
            obtain rfl : N = K := by omega
            have HV2 : Hid (runL Runs.fresh (L.take N) = runL Runs.fresh (Runs.lines t.data.toList)) := by
              show _ = _
              rw [HLi.out, ← HLn.out, List.take_length]
            rw [HV2.out]
            generalize str (runL Runs.fresh (Runs.lines t.data.toList)) = SR
            have eq1 : (SR.toList == SR.toList) = true := beq_self_eq_true _
            obtain ⟨_, _, hbl⟩ := hA.out
            have HB : Hid (Below w.heap.size w wr) := HB2.out.trans (hbl.mono HB2.out.size)
            clear hA hbl
            go_wp2_with fail
            go_ret
            exact ⟨rfl, HB.out⟩

end Go.Proofs.YtfpkngpgmllhnaaGreatDoor.WalkRunAnswers

