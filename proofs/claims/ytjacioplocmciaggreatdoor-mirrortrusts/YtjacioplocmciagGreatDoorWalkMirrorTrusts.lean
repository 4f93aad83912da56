/-
  The walk of MirrorTrusts: what a mirror has was signed so, whatever it hears.
-/
import Derived.Test.YtjacioplocmciagGreatDoorSePlain
import Derived.Test.YtjacioplocmciagGreatDoorMirOne
import Derived.Test.YtjacioplocmciagGreatDoorWalkMiOff
import Derived.Test.YtjacioplocmciagGreatDoorWalkSe
import Derived.Test.YtjacioplocmciagGreatDoorWalkReplies
import Derived.Test.YtjacioplocmciagGreatDoorWalkEntsSame
import Derived.Test.YtjacioplocmciagGreatDoorEntAll
import Derived.Test.YtjacioplocmciagGreatDoorWalkCheck
import Derived.Test.YtjacioplocmciagGreatDoorWalkHdSign
import Derived.Test.YtjacioplocmciagGreatDoorEntCuts
import Derived.Test.YtjacioplocmciagGreatDoorReplyAll
import Derived.Deep.RegionHeld3
import Derived.Deep.DeepMust
import Derived.Deep.CutBlock
namespace Go.Proofs.YtjacioplocmciagGreatDoor.WalkMirrorTrusts
open Go.RowKit
open Lists (Row bt ints)
open Keeps (Kept owns_kept)
open Wides (Wide owns_wide)
open Entries (Entry entE entsE leafsOf leafsV)
open EntRows (cells)
open Errs (errv errv0 errv_pos)
open Heads (isKey verifyE)
open Mirrors (Mir Reply Want Ok hearE hearM rootE)
open ReplyRows (RFine)
open MirVals (rv cell7 wv aggR sizeR aggW sizeW)
open HeadVals (hv aggH sizeH)
open WalkMiOff (Off)
open MirOne (One RO)
open Answers (logE logH)
open Follows (Goes At)

theorem want_what (x y z : Int) (w : World) : (Instr.field 68 (.agg #[.int .i64 x, .int .i64 y, .int .i64 z]) 0).run Tryz.prog w = .ok (.int .i64 x) w := by kernel_rfl
theorem key_not {key : Int} (h : isKey key = false) : key < 1 ∨ 1000000 < key := by
  unfold isKey at h
  simp at h
  omega
theorem wf_i64 {z : Int} (h : (Lit.int .i64 z).wf = true) : -9223372036854775808 ≤ z ∧ z ≤ 9223372036854775807 := by
  have h1 : IntKind.i64.min = -9223372036854775808 := by decide
  have h2 : IntKind.i64.max = 9223372036854775807 := by decide
  simp only [Lit.wf, h1, h2] at h
  simpa using h
theorem keep1 (w : World) {g j : Nat} {p : Addr} (u : Value) (h : ¬ p.block = g) : (w.setCell ⟨g, j, none⟩ u).cell? p = w.cell? p := World.cell?_of_block (w := w) (Below.heap_setCell _ _ _ _ h)
/-- a reply is stored elsewhere -/
theorem keep7 (w : World) {g : Nat} {p : Addr} (u0 u1 u2 u3 u4 u5 u6 : Value) (h : ¬ p.block = g) : (((((((w.setCell ⟨g, 0, none⟩ u0).setCell ⟨g, 1, none⟩ u1).setCell ⟨g, 2, none⟩ u2).setCell ⟨g, 3, none⟩ u3).setCell ⟨g, 4, none⟩ u4).setCell ⟨g, 5, none⟩ u5).setCell ⟨g, 6, none⟩ u6).cell? p = w.cell? p := by
  rw [keep1 _ _ h, keep1 _ _ h, keep1 _ _ h, keep1 _ _ h, keep1 _ _ h, keep1 _ _ h, keep1 _ _ h]
/-- the law's first fact -/
def hi1 : List Entry := [(3, ⟨#[104, 105]⟩)]
theorem hi_log : logE hi1 7 1 = 0 := Serves.log_zero (by decide) (by decide) (by decide) (by decide)
theorem hi_head : hearE 7 Mirrors.start ⟨1, logH hi1 7 1, [], []⟩ = 0 ∧ Goes 7 1 hi1 0 1 0 (hearM 7 Mirrors.start ⟨1, logH hi1 7 1, [], []⟩) := by
  have h := Follows.hear_head (now := 1) (Follows.start_at 7 hi1) (Nat.zero_le 1) (Nat.le_refl _) hi_log
  exact ⟨h.1, h.2.1 (by decide)⟩
theorem hi_page {m : Mir} (h : Goes 7 1 hi1 0 1 0 m) : m.want = ⟨2, 0, 1⟩ ∧ hearE 7 m ⟨2, Heads.zero, hi1, []⟩ = 0 ∧ (hearM 7 m ⟨2, Heads.zero, hi1, []⟩).own.length = 1 := by
  have hw := h.want
  have hp := Follows.hear_page h (by decide) ⟨2, Heads.zero, hi1, []⟩ rfl rfl
  exact ⟨hw, hp.1, (hp.2.1 ⟨rfl, rfl⟩).size⟩
/-- what holds of a mirror that has some -/
theorem has_some {key : Int} {m : Mir} (h : Ok key m) (hn : m.own.length ≠ 0) : verifyE m.head key = 0 ∧ m.head.size = m.own.length ∧ m.head.root = rootE m.own := by
  rcases h.head with ⟨_, h2⟩ | h2
  · rw [h2] at hn
    exact absurd rfl hn
  · exact h2
theorem has_ents {key : Int} {m : Mir} (h : Ok key m) : entsE m.own = 0 := Entries.ents_of h.few h.own

set_option maxHeartbeats 16000000 in
set_option maxRecDepth 100000 in
theorem walk (key : Int) (_ : (Lit.int .i64 key).wf = true) (a : Option Addr) (n cap : Nat) (l : List Entry) (_ : l.length * 24 ≤ 140737488351232) (hw : ∀ x ∈ l, (Lit.int .i64 x.1).wf = true ∧ x.2.size ≤ 140737488351232)
    (a2 : Option Addr) (n2 cap2 : Nat) (l2 : List (List Int)) (_ : l2.length * 24 ≤ 140737488351232) (hw2 : ∀ x ∈ l2, ∀ z ∈ x, (Lit.int .i64 z).wf = true) (a3 : Option Addr) (n3 cap3 : Nat) (l3 : List Reply) (_ : l3.length * 88 ≤ 140737488351232) (hw3 : ∀ x ∈ l3, RFine x) (w : World)
    (r : Wide 2 w a n cap (cells l)) (r2 : IntRows.Rowss w a2 n2 cap2 l2) (r3 : ReplyRows.Replies w a3 n3 cap3 l3) (hK : WalkHdLib.Tabs w) :
    Calls Tryz.prog 5 #[.int .i64 key, .slice a n cap, .slice a2 n2 cap2, .slice a3 n3 cap3] w fun e w' => e = .returned (.bool true) ∧ Below w.heap.size w w' := by
  have hP : WalkMi.Asks w := hK
  have hQ : WalkSe.Asks w := hK
  have HI : Hid (Wide 2 w a n cap (cells l) ∧ IntRows.Rowss w a2 n2 cap2 l2 ∧ ReplyRows.Replies w a3 n3 cap3 l3) := ⟨r, r2, r3⟩
  have HA : Hid (∀ w1, Below w.heap.size w w1 → WalkMi.Asks w1) := fun w1 h => hP.below h
  have HQ : Hid (∀ w1, Below w.heap.size w w1 → WalkSe.Asks w1) := fun w1 h => hQ.below h
  have HT : Hid (∀ w1, Below w.heap.size w w1 → WalkHdLib.Tabs w1) := fun w1 h => hK.below h
  have aR := aggR
  have zR := sizeR
  have aW := aggW
  have zW := sizeW
  have aH := aggH
  have zH := sizeH
  clear r r2 r3 hP hQ hK
  have hk7 : isKey 7 = true := by decide
  have cN := WalkMi.new_any 7 w w.heap.size (Nat.le_refl _) (HA.out w (Below.refl _ _))
  rw [if_pos hk7, errv0] at cN
  go_enter Tryz.func5, Tryz.ntmps5
  go_wp2_with fail
  refine cN.mono ?_
  rintro e w1 ⟨v, rfl, hv1, b1⟩
  obtain ⟨b0, F0, rfl, hmi, _⟩ := hv1 hk7
  have HO : Hid (Off (fun _ => False) w b0 7 Mirrors.start w1) := ⟨⟨F0, hmi, fun _ q => q.elim⟩, fun _ q => q.elim, b1, Mirrors.start_ok 7⟩
  clear cN hv1 hmi b1
  go_upto_region 4 with fail
  have HB2 : Hid (Below w1.heap.size w1 (w1.alloc (.cells #[.int .i64 3, .string ⟨#[104, 105]⟩] 79))) := (Below.refl _ _).alloc (Nat.le_refl _) _
  have cH := WalkSe.head_any hi1 (some ⟨w1.heap.size, 0, none⟩) 1 1 7 1 (w1.alloc (.cells #[.int .i64 3, .string ⟨#[104, 105]⟩] 79)) ⟨rfl, Nat.le_refl _, fun _ => ⟨_, 0, rfl, fun j u hj => by match j, hj with | 0, hj | 1, hj => all_goals (simp [hi1, cells] at hj; subst hj; simp) | j + 2, hj => simp [hi1, cells] at hj⟩⟩ (fun e he => by simp [hi1] at he; subst he; decide) (HQ.out _ (bt HO.out.below HB2.out))
  rw [hi_log, errv0] at cH
  obtain ⟨g1, g2⟩ := hi_head
  obtain ⟨p1, p2, p3⟩ := hi_page g2
  obtain ⟨M1, hM1⟩ : ∃ M1, hearM 7 Mirrors.start ⟨1, logH hi1 7 1, [], []⟩ = M1 := ⟨_, rfl⟩
  rw [hM1] at g2 p1 p2 p3
  generalize logH hi1 7 1 = H at cH g1 hM1
  obtain ⟨x1, x2, x3, x4⟩ := H
  unfold hv at cH
  simp only at cH
  have HHr : Hid (∀ w3, Below w1.heap.size w1 w3 → Calls Tryz.prog 28 #[.pointer (some ⟨b0, 0, none⟩), .agg #[.int .i64 1, .int .i64 x1, .int .i64 x2, .int .i64 x3, .int .i64 x4, .slice none 0 0, .slice none 0 0]] w3 fun e w' => e = .returned .nilIface ∧ Off (fun _ => False) w b0 7 M1 w') := fun w3 b3 => by
    refine (WalkMiOff.hear_off (HO.out.stays b3) (HA.out w3 (HO.out.stays b3).below) ⟨1, ⟨x1, x2, x3, x4⟩, [], []⟩ ⟨Nat.zero_le _, Nat.zero_le _, fun e he => by cases he⟩ none 0 none 0 (Wide.nil _ _ _ _) (Row.nil _ _ _) (fun p h0 => by cases h0) (fun p h0 => by cases h0)).mono ?_
    rintro e w' ⟨rfl, q1, _⟩
    exact ⟨by rw [g1, errv0], by rw [← hM1]; exact q1⟩
  have HHs : Hid (∀ w3, Off (fun _ => False) w b0 7 M1 w3 → Calls Tryz.prog 28 #[.pointer (some ⟨b0, 0, none⟩), .agg #[.int .i64 2, .int .i64 0, .int .i64 0, .int .i64 0, .int .i64 0, .slice (some ⟨w3.heap.size, 0, none⟩) 1 1, .slice none 0 0]] (w3.alloc (.cells #[.int .i64 3, .string ⟨#[104, 105]⟩] 79)) fun e w' => e = .returned .nilIface ∧ Calls Tryz.prog 32 #[.pointer (some ⟨b0, 0, none⟩)] w' fun e w'' => e = .returned (.int .i64 1) ∧ Below w.heap.size w w'') := fun w3 o3 => by
    have b4 : Below w3.heap.size w3 (w3.alloc (.cells #[.int .i64 3, .string ⟨#[104, 105]⟩] 79)) := (Below.refl _ _).alloc (Nat.le_refl _) _
    have o4 : Off (fun k => k = w3.heap.size) w b0 7 M1 (w3.alloc (.cells #[.int .i64 3, .string ⟨#[104, 105]⟩] 79)) := o3.more b4 fun i hi => .inr ⟨by omega, by simp; omega⟩
    refine (WalkMiOff.hear_off o4 (HA.out _ o4.below) ⟨2, Heads.zero, hi1, []⟩ ⟨by decide, Nat.zero_le _, fun e he => by simp [hi1] at he; subst he; decide⟩ (some ⟨w3.heap.size, 0, none⟩) 1 none 0 ⟨rfl, Nat.le_refl _, fun _ => ⟨_, 0, rfl, fun j u hj => by match j, hj with | 0, hj | 1, hj => all_goals (simp [hi1, cells] at hj; subst hj; simp) | j + 2, hj => simp [hi1, cells] at hj⟩⟩ (Row.nil _ _ _) (fun p _ hp => by simp only [Option.some.injEq] at hp; subst hp; exact .inr rfl) (fun p h0 => by cases h0)).mono ?_
    rintro e w' ⟨rfl, q1, _⟩
    refine ⟨by rw [p2, errv0], ?_⟩
    have hs := WalkMiOff.size_off q1
    rw [p3] at hs
    refine hs.mono ?_
    rintro e w'' ⟨rfl, q2, _⟩
    exact ⟨rfl, q2.below⟩
  have HWt : Hid (∀ w3, Off (fun _ => False) w b0 7 M1 w3 → Calls Tryz.prog 31 #[.pointer (some ⟨b0, 0, none⟩)] w3 fun e w' => e = .returned (.agg #[.int .i64 2, .int .i64 0, .int .i64 1]) ∧ Off (fun _ => False) w b0 7 M1 w') := fun w3 o3 => by
    have h := WalkMiOff.want_off o3
    rw [p1] at h
    refine h.mono ?_
    rintro e w' ⟨rfl, q1, _⟩
    exact ⟨rfl, q1⟩
  have fW2 := want_what 2 0 1
  clear g1 g2 p1 p2 p3 hM1
  go_wp2_with fail
  refine cH.mono ?_
  rintro e w3 ⟨rfl, b3⟩
  have HB3 : Hid (Below w1.heap.size w1 (w3.alloc (.cells #[.int .i64 x1, .int .i64 x2, .int .i64 x3, .int .i64 x4] 60))) := bt HB2.out (b3.alloc b3.size _)
  clear cH b3 HB2
  go_wp2_with fail
  refine (HHr.out _ HB3.out).mono ?_
  rintro e w4 ⟨rfl, o4⟩
  clear HHr HB3
  go_wp2_with fail
  refine (HWt.out _ o4).mono ?_
  rintro e w5 ⟨rfl, o5⟩
  clear HWt o4
  go_wp2_with fail
  refine (HHs.out _ o5).mono ?_
  rintro e w6 ⟨rfl, hsz⟩
  clear HHs
  go_wp2_with fail
  refine hsz.mono ?_
  rintro e w7 ⟨rfl, b7⟩
  have HB7 : Hid (Below w.heap.size w w7) := b7
  have cN := WalkMi.new_any key w7 w.heap.size b7.size (HA.out w7 HB7.out)
  clear hsz b7 o5 HO
  go_upto_region 9 with fail
  cases hk : isKey key with
  | false =>
    have hkn := key_not hk
    rw [hk, if_neg (by decide), errv_pos 1 (by decide)] at cN
    go_wp2_with fail
    refine cN.mono ?_
    rintro e w8 ⟨v8, rfl, _, b8⟩
    have HB8 : Hid (Below w.heap.size w w8) := bt HB7.out b8
    clear cN b8
    by_cases h1 : key < 1
    · go_wp2_with fail
      go_ret
      exact ⟨rfl, HB8.out⟩
    · have h2 : 1000000 < key := by omega
      clear hkn
      go_wp2_with fail
      go_ret
      exact ⟨rfl, HB8.out⟩
  | true =>
    rw [hk, if_pos rfl, errv0] at cN
    go_wp2_with fail
    refine cN.mono ?_
    rintro e w8 ⟨v8, rfl, hv8, b8⟩
    obtain ⟨bx, F, rfl, hmi, hF8⟩ := by first | exact hv8 rfl | exact hv8 trivial
    have HO : Hid (One w w8 bx F key Mirrors.start) := ⟨⟨F, hmi, fun _ q => q⟩, fun k q => hmi.foot k q, bt HB7.out b8⟩
    clear cN hv8 hmi b8 hF8 HB7
    go_upto_region 14 with fail
    go_loopw [8, 15, 16, 17, 18, 19, 20, 21, 22, 23, 24, 25, 26] (fun _ hadv iv _ _ _ _ _ _ _ _ _ _ wr => ∃ (i : Nat) (m : Mir) (G : Nat → Prop) (ah : Option Addr) (ch : Nat), i ≤ 60 ∧ i ≤ n2 ∧ iv = .int .i64 (i : Int) ∧ hadv = .slice ah m.own.length ch ∧ Hid (One w wr bx G key m) ∧ Hid (Ok key m) ∧ Hid (Wide 2 wr ah m.own.length ch (cells m.own) ∧ ∀ p, ah = some p → ¬ G p.block)) (fun _ _ iv _ _ _ _ _ _ _ _ _ _ _ => 60 - (intOf iv).toNat)
    case atStart => exact ⟨0, Mirrors.start, F, none, 0, by omega, Nat.zero_le _, rfl, rfl, HO, Mirrors.start_ok key, Wide.nil _ _ _ _, fun p hp => by cases hp⟩
    case round =>
      clear HO
      obtain ⟨i, m, G, ah, ch, hi, hin, rfl, rfl, HO, HOk, HHd⟩ := hrel
      by_cases hgo : ¬ (i < n2 ∧ i < 60)
      · have HZ : Hid (Below w.heap.size w wr) := HO.out.bel
        by_cases h1 : i < n2
        · have i1 : (i : Int) < (n2 : Int) := by omega
          have i2 : ¬ (i : Int) < 60 := by omega
          clear hgo
          go_wp2_with fail
          go_ret
          exact ⟨rfl, HZ.out⟩
        · have i1 : ¬ (i : Int) < (n2 : Int) := by omega
          clear hgo
          go_wp2_with fail
          go_ret
          exact ⟨rfl, HZ.out⟩
      have hgo : i < n2 ∧ i < 60 := Decidable.not_not.1 hgo
      obtain ⟨g1, g2⟩ := hgo
      have i1 : (i : Int) < (n2 : Int) := by omega
      have i2 : (i : Int) < 60 := by omega
      obtain ⟨bst, off2, rfl, hrows⟩ := HI.out.2.1.2.2 (by omega)
      obtain ⟨li, hli⟩ : ∃ li, l2[i]? = some li := ⟨_, List.getElem?_eq_getElem (by have := HI.out.2.1.1; omega)⟩
      obtain ⟨ai, ci, hci, hrw⟩ := hrows i li hli
      have HLi : Hid (w.cell? ⟨bst, off2 + i, none⟩ = some (.slice ai li.length ci) ∧ Row w ai li.length ci (ints li) ∧ ∀ z ∈ li, (Lit.int .i64 z).wf = true) := ⟨hci, hrw, hw2 li (List.mem_of_getElem? hli)⟩
      clear hci hrw hrows hli
      have HV : Hid ((wr.alloc (.cells #[.int .i64 0, .int .i64 0] 63)).rowIs wr.heap.size 63 2 (fun k => if k = 0 then .int .i64 0 else .int .i64 0)) := World.rowIs_alloc _ _ _ _ (fun j hj => by match j, hj with | 0, _ | 1, _ => rfl | j + 2, h => simp at h; omega)
      have HX : Hid (Below wr.heap.size wr (wr.alloc (.cells #[.int .i64 0, .int .i64 0] 63))) := (Below.refl _ _).alloc (Nat.le_refl _) _
      obtain ⟨w0, HW0⟩ : ∃ w0, Hid (wr = w0) := ⟨_, rfl⟩
      have HO0 : Hid (One w w0 bx G key m) := by show One _ _ _ _ _ _; rw [← HW0.out]; exact HO.out
      have HH0 : Hid (Wide 2 w0 ah m.own.length ch (cells m.own) ∧ ∀ p, ah = some p → ¬ G p.block) := by show _ ∧ _; rw [← HW0.out]; exact HHd.out
      have HX0 : Hid (Below w0.heap.size w0 (wr.alloc (.cells #[.int .i64 0, .int .i64 0] 63))) := by show Below _ _ _; rw [← HW0.out]; exact HX.out
      have hpv : w0.heap.size = wr.heap.size := by rw [HW0.out]
      clear HO HHd HX HW0
      go_upto_region 18 with fail
      generalize wr.alloc (.cells #[.int .i64 0, .int .i64 0] 63) = w13 at HV HX0 ⊢
      rw [← hpv] at HV ⊢
      clear hpv
      generalize hpv : w0.heap.size = pv at HV ⊢
      have HPv : Hid (w0.heap.size ≤ pv) := by show _ ≤ _; omega
      clear hpv
      go_loopw [18] (fun jv wd => ∃ (j : Nat) (p q : Int), j ≤ 2 ∧ jv = .int .i64 (j : Int) ∧ Hid (wd.rowIs pv 63 2 (fun k => if k = 0 then .int .i64 p else .int .i64 q)) ∧ Hid (Below w0.heap.size w0 wd) ∧ Hid ((-9223372036854775808 ≤ p ∧ p ≤ 9223372036854775807) ∧ (-9223372036854775808 ≤ q ∧ q ≤ 9223372036854775807))) (fun jv _ => 2 - (intOf jv).toNat)
      case atStart => exact ⟨0, 0, 0, by omega, rfl, HV, HX0, ⟨by omega, by omega⟩, by omega, by omega⟩
      case round =>
        clear HX0
        obtain ⟨j, p, q, hj, rfl, HRv, HX, HPq⟩ := hrel
        have HBw : Hid (Below w.heap.size w wr) := bt HO0.out.bel HX.out
        have cs : wr.cell? ⟨bst, off2 + i, none⟩ = some (.slice ai li.length ci) := Lists.cell_below HBw.out HLi.out.1
        by_cases hgo : j < li.length ∧ j < 2
        · obtain ⟨g3, g4⟩ := hgo
          have i3 : (j : Int) < (li.length : Int) := by omega
          have i4 : (j : Int) < 2 := by omega
          obtain ⟨bi, oi, rfl, hcz⟩ := HLi.out.2.1.2.2 (by omega)
          have cz : wr.cell? ⟨bi, oi + j, none⟩ = some (.int .i64 (li.getD j 0)) := Lists.cell_below HBw.out (hcz j _ (Lists.ints_at g3))
          have hz := wf_i64 (HLi.out.2.2 (li.getD j 0) (by rw [List.getD_eq_getElem?_getD, List.getElem?_eq_getElem g3]; exact List.getElem_mem g3))
          have r0 := HRv.out.cell (i := 0) (by omega)
          have r1 := HRv.out.cell (i := 1) (by omega)
          have f0 := HRv.out.frozen 0
          have f1 := HRv.out.frozen 1
          generalize li.getD j 0 = z at cz hz
          have HZ : Hid (-9223372036854775808 ≤ z ∧ z ≤ 9223372036854775807) := hz
          clear hcz hz
          have hj2 : j = 0 ∨ j = 1 := by omega
          rcases hj2 with rfl | rfl
          · rw [Nat.add_zero] at cz
            go_wp2_with fail
            go_roundw
            case rel => exact ⟨1, z, q, by omega, by go_num, (HRv.out.set 0 (.int .i64 z)).congr (fun k hk => by match k, hk with | 0, _ | 1, _ => rfl | k + 2, h => omega), HX.out.setCell HPv.out _, HZ.out, HPq.out.2⟩
            case measure => simp [intOf]
          · go_wp2_with fail
            go_roundw
            case rel => exact ⟨2, p, z, by omega, by go_num, (HRv.out.set 1 (.int .i64 z)).congr (fun k hk => by match k, hk with | 0, _ | 1, _ => rfl | k + 2, h => omega), HX.out.setCell HPv.out _, HPq.out.1, HZ.out⟩
            case measure => simp [intOf]
        · go_upto_region 18 with fail
          go_cut [98] from 88 to 97 (fun sv wd => sv = .bool false ∧ wr = wd)
          case first => as_aux_lemma =>
            by_cases h8 : j < li.length
            · have i3 : (j : Int) < (li.length : Int) := by omega
              have i4 : ¬ (j : Int) < 2 := by omega
              clear hgo
              go_wp2_with fail
              go_meet
              case rel => exact ⟨by simp, by simp⟩
            · have i3 : ¬ (j : Int) < (li.length : Int) := by omega
              clear hgo
              go_wp2_with fail
              go_meet
              case rel => exact ⟨by simp, by simp⟩
          obtain ⟨rfl, rfl⟩ := hcut
          clear hgo cs HV
          have HZr : Hid ((wr.alloc (.cells #[.int .i64 0, .int .i64 0, .int .i64 0, .int .i64 0, .int .i64 0, .slice none 0 0, .slice none 0 0] 65)).rowIs wr.heap.size 65 7 (cell7 0 0 0 0 0 (.slice none 0 0) (.slice none 0 0))) := World.rowIs_alloc _ _ _ _ (fun j hj => by match j, hj with | 0, _ | 1, _ | 2, _ | 3, _ | 4, _ | 5, _ | 6, _ => rfl | j + 7, h => simp at h; omega)
          have bA : Below wr.heap.size wr (wr.alloc (.cells #[.int .i64 0, .int .i64 0, .int .i64 0, .int .i64 0, .int .i64 0, .slice none 0 0, .slice none 0 0] 65)) := (Below.refl _ _).alloc (Nat.le_refl _) _
          have HX2 : Hid (Below w0.heap.size w0 (wr.alloc (.cells #[.int .i64 0, .int .i64 0, .int .i64 0, .int .i64 0, .int .i64 0, .slice none 0 0, .slice none 0 0] 65))) := bt HX.out bA
          have HRv2 : Hid ((wr.alloc (.cells #[.int .i64 0, .int .i64 0, .int .i64 0, .int .i64 0, .int .i64 0, .slice none 0 0, .slice none 0 0] 65)).rowIs pv 63 2 (fun k => if k = 0 then .int .i64 p else .int .i64 q)) := HRv.out.of_block (bA.block _ HRv.out.lt)
          have HPr : Hid (¬ G wr.heap.size ∧ w0.heap.size ≤ wr.heap.size ∧ pv < wr.heap.size) := ⟨fun s => by have := (HO0.out.foot _ s).2; have := HX.out.size; omega, HX.out.size, HRv.out.lt⟩
          clear bA HX HRv HBw
          go_upto_region 22 with fail
          generalize wr.alloc (.cells #[.int .i64 0, .int .i64 0, .int .i64 0, .int .i64 0, .int .i64 0, .slice none 0 0, .slice none 0 0] 65) = w18 at HZr HX2 HRv2 ⊢
          generalize wr.heap.size = pr at HZr HPr ⊢
          have HBw : Hid (Below w.heap.size w w18) := bt HO0.out.bel HX2.out
          have t0 : w18.cell? ⟨pv, 0, none⟩ = some (.int .i64 p) := HRv2.out.cell (i := 0) (by omega)
          have t1 : w18.cell? ⟨pv, 1, none⟩ = some (.int .i64 q) := HRv2.out.cell (i := 1) (by omega)
          go_cut [129] from 110 to 128 (fun sv wd => sv = .bool (decide (0 ≤ p ∧ p ≤ (n : Int) ∧ 0 ≤ q ∧ p ≤ 200)) ∧ w18 = wd)
          case first => as_aux_lemma =>
            by_cases h1 : 0 ≤ p
            · by_cases h2 : p ≤ (n : Int)
              · by_cases h3 : 0 ≤ q
                · by_cases h4 : p ≤ 200
                  · have hd : decide (0 ≤ p ∧ p ≤ (n : Int) ∧ 0 ≤ q ∧ p ≤ 200) = true := decide_eq_true ⟨h1, h2, h3, h4⟩
                    go_wp2_with fail
                    go_meet
                    case rel => exact ⟨by first | rw [hd] | simp [h1, h2, h3, h4], by simp⟩
                  · have hd : decide (0 ≤ p ∧ p ≤ (n : Int) ∧ 0 ≤ q ∧ p ≤ 200) = false := decide_eq_false fun s => h4 s.2.2.2
                    go_wp2_with fail
                    go_meet
                    case rel => exact ⟨by first | rw [hd] | simp [h1, h2, h3, h4], by simp⟩
                · have hd : decide (0 ≤ p ∧ p ≤ (n : Int) ∧ 0 ≤ q ∧ p ≤ 200) = false := decide_eq_false fun s => h3 s.2.2.1
                  go_wp2_with fail
                  go_meet
                  case rel => exact ⟨by first | rw [hd] | simp [h1, h2, h3], by simp⟩
              · have hd : decide (0 ≤ p ∧ p ≤ (n : Int) ∧ 0 ≤ q ∧ p ≤ 200) = false := decide_eq_false fun s => h2 s.2.1
                go_wp2_with fail
                go_meet
                case rel => exact ⟨by first | rw [hd] | simp [h1, h2], by simp⟩
            · have hd : decide (0 ≤ p ∧ p ≤ (n : Int) ∧ 0 ≤ q ∧ p ≤ 200) = false := decide_eq_false fun s => h1 s.1
              go_wp2_with fail
              go_meet
              case rel => exact ⟨by first | rw [hd] | simp [h1], by simp⟩
          obtain ⟨rfl, rfl⟩ := hcut
          obtain ⟨Bq, HBq⟩ : ∃ Bq : Bool, Hid (decide (0 ≤ p ∧ p ≤ (n : Int) ∧ 0 ≤ q ∧ p ≤ 200) = Bq) := ⟨_, rfl⟩
          rw [HBq.out]
          go_upto_if 129 with fail
          go_cut [129] from 130 to 149 (fun _ wd => ∃ (r : Reply) (a5 : Option Addr) (c5 : Nat) (a6 : Option Addr) (c6 : Nat), Hid (RO wd pr r a5 c5 a6 c6 G) ∧ Hid (Below w0.heap.size w0 wd))
          case first => as_aux_lemma =>
            cases Bq with
            | true =>
              obtain ⟨h1, h2, h3, h4⟩ := of_decide_eq_true HBq.out
              obtain ⟨P, rfl⟩ := Int.eq_ofNat_of_zero_le h1
              have hPn : P ≤ n := by omega
              have hP2 : P ≤ 200 := by omega
              have hcap : P ≤ cap := Nat.le_trans hPn HI.out.1.2.1
              have i5 : (P : Int) ≤ (cap : Int) := by omega
              have i6 : (0 : Int) ≤ (P : Int) := by omega
              have HSS : Hid (∀ w', Below w18.heap.size w18 w' → w'.cell? ⟨pv, 0, none⟩ = some (.int .i64 (P : Int)) ∧ w'.cell? ⟨pv, 1, none⟩ = some (.int .i64 q)) := fun w' b' => ⟨Lists.cell_below b' t0, Lists.cell_below b' t1⟩
              have HW : Hid (∀ w', Below w18.heap.size w18 w' → Calls Tryz.prog 31 #[.pointer (some ⟨bx, 0, none⟩)] w' fun e w'' => e = .returned (wv m.want) ∧ Below w'.heap.size w' w'') := fun w' b' => MirOne.want_one (HO0.out.below (bt HX2.out b')) HOk.out
              have HR : Hid (∀ w', Below w18.heap.size w18 w' → Calls Tryz.prog 25 #[.slice a P cap, .int .i64 key, wv m.want, .int .i64 q] w' fun e w'' => WalkReplies.Rep w' e w'') := fun w' b' => WalkReplies.replies_any (l.take P) a P cap key m.want q w' ((WalkReplies.wide_take HI.out.1 P hPn).below (bt HBw.out b')) hP2 (fun e he => (hw e (List.mem_of_mem_take he)).2) h3 HPq.out.2.2
              have HZs : Hid (∀ w', Below w18.heap.size w18 w' → w'.rowIs pr 65 7 (cell7 0 0 0 0 0 (.slice none 0 0) (.slice none 0 0))) := fun w' b' => HZr.out.of_block (b'.block _ HZr.out.lt)
              have hpp : pv ≠ pr := by have := HPr.out.2.2; omega
              have K0 : Hid (∀ (w' : World) (u0 u1 u2 u3 u4 u5 u6 : Value), (((((((w'.setCell ⟨pr, 0, none⟩ u0).setCell ⟨pr, 1, none⟩ u1).setCell ⟨pr, 2, none⟩ u2).setCell ⟨pr, 3, none⟩ u3).setCell ⟨pr, 4, none⟩ u4).setCell ⟨pr, 5, none⟩ u5).setCell ⟨pr, 6, none⟩ u6).cell? ⟨pv, 0, none⟩ = w'.cell? ⟨pv, 0, none⟩) := fun w' u0 u1 u2 u3 u4 u5 u6 => keep7 w' (p := ⟨pv, 0, none⟩) u0 u1 u2 u3 u4 u5 u6 hpp
              have K1 : Hid (∀ (w' : World) (u0 u1 u2 u3 u4 u5 u6 : Value), (((((((w'.setCell ⟨pr, 0, none⟩ u0).setCell ⟨pr, 1, none⟩ u1).setCell ⟨pr, 2, none⟩ u2).setCell ⟨pr, 3, none⟩ u3).setCell ⟨pr, 4, none⟩ u4).setCell ⟨pr, 5, none⟩ u5).setCell ⟨pr, 6, none⟩ u6).cell? ⟨pv, 1, none⟩ = w'.cell? ⟨pv, 1, none⟩) := fun w' u0 u1 u2 u3 u4 u5 u6 => keep7 w' (p := ⟨pv, 1, none⟩) u0 u1 u2 u3 u4 u5 u6 hpp
              go_upto_region 23 with fail
              obtain ⟨s0, s1⟩ := HSS.out _ (Below.refl _ w18).drew
              go_region_held3 (fun w' => w'.cell? ⟨pv, 0, none⟩ = some (.int .i64 (P : Int)) ∧ w'.cell? ⟨pv, 1, none⟩ = some (.int .i64 q)) (first | (rw [K0.out, K1.out]; exact ⟨s0, s1⟩) | exact ⟨s0, s1⟩)
                (first | (go_at_call 31; refine (HW.out _ (Below.refl _ w18).drew).mono ?_; rintro e w21 ⟨rfl, b21⟩; have HB21 : Hid (Below w18.heap.size w18 w21) := bt (Below.refl _ w18).drew b21; obtain ⟨s0, s1⟩ := HSS.out _ HB21.out; clear b21) | (go_at_call 25; refine (HR.out _ HB21.out).mono ?_; rintro e w22 ⟨⟨qw, ⟨qs, qr, qt, qg⟩, qe, qp⟩, a5, c5, a6, c6, rfl, hfi, h5, h6, n5, n6, b22⟩; simp only [rv]; have HB22 : Hid (Below w18.heap.size w18 w22) := bt HB21.out b22; obtain ⟨s0, s1⟩ := HSS.out _ HB22.out; have hz := HZs.out _ HB22.out; have z0 := hz.cell (i := 0) (by omega); have z1 := hz.cell (i := 1) (by omega); have z2 := hz.cell (i := 2) (by omega); have z3 := hz.cell (i := 3) (by omega); have z4 := hz.cell (i := 4) (by omega); have z5 := hz.cell (i := 5) (by omega); have z6 := hz.cell (i := 6) (by omega); have f0 := hz.frozen 0; have f1 := hz.frozen 1; have f2 := hz.frozen 2; have f3 := hz.frozen 3; have f4 := hz.frozen 4; have f5 := hz.frozen 5; have f6 := hz.frozen 6; have HF : Hid (w22.rowIs pr 65 7 (cell7 0 0 0 0 0 (.slice none 0 0) (.slice none 0 0)) ∧ RFine ⟨qw, ⟨qs, qr, qt, qg⟩, qe, qp⟩ ∧ Wide 2 w22 a5 qe.length c5 (cells qe) ∧ Row w22 a6 qp.length c6 (ints qp) ∧ (∀ x, a5 = some x → w21.heap.size ≤ x.block) ∧ (∀ x, a6 = some x → w21.heap.size ≤ x.block)) := ⟨hz, hfi, h5, h6, n5, n6⟩; clear b22 hz hfi h5 h6 n5 n6))
              have HEND : Hid (RO (WalkReplies.put7 w22 pr qw qs qr qt qg (.slice a5 qe.length c5) (.slice a6 qp.length c6)) pr ⟨qw, ⟨qs, qr, qt, qg⟩, qe, qp⟩ a5 c5 a6 c6 G ∧ Below w0.heap.size w0 (WalkReplies.put7 w22 pr qw qs qr qt qg (.slice a5 qe.length c5) (.slice a6 qp.length c6))) := by
                obtain ⟨hz, hfi, h5, h6, n5, n6⟩ := HF.out
                have kS := WalkReplies.kept_put7 w22 pr qw qs qr qt qg (.slice a5 qe.length c5) (.slice a6 qp.length c6)
                have hl1 := HZr.out.lt
                have hx2 := HX2.out.size
                have hx0 := HO0.out.bel.size
                have hl2 := HB21.out.size
                refine ⟨⟨?_, MirOne.wide_kept h5 kS fun x _ hx s => ?_, MirOne.row_kept h6 kS fun x _ hx s => ?_, HPr.out.1, fun x _ hx s => ?_, fun x _ hx s => ?_, hfi⟩, (bt HX2.out HB22.out).trans (kS.below (fun i s => ?_) (bt HX2.out HB22.out).size)⟩
                · exact (((((((hz.set 0 (.int .i64 qw)).set 1 (.int .i64 qs)).set 2 (.int .i64 qr)).set 3 (.int .i64 qt)).set 4 (.int .i64 qg)).set 5 (.slice a5 qe.length c5)).set 6 (.slice a6 qp.length c6)).congr (fun k hk => by match k, hk with | 0, _ | 1, _ | 2, _ | 3, _ | 4, _ | 5, _ | 6, _ => rfl | k + 7, h => omega)
                · have := n5 x hx
                  omega
                · have := n6 x hx
                  omega
                · have := n5 x hx
                  have := (HO0.out.foot _ s).2
                  omega
                · have := n6 x hx
                  have := (HO0.out.foot _ s).2
                  omega
                · rw [s]
                  exact HPr.out.2.1
              clear z0 z1 z2 z3 z4 z5 z6 f0 f1 f2 f3 f4 f5 f6 K0 K1 HF HZs HR HW HSS
              go_wp2_with fail
              go_meet
              case rel => exact ⟨_, a5, c5, a6, c6, HEND.out.1, HEND.out.2⟩
            | false =>
              by_cases h3 : 0 < n3
              · have i3 : (0 : Int) < (n3 : Int) := by omega
                obtain ⟨b3, off3, rfl, hraw⟩ := HI.out.2.2.2.2 h3
                obtain ⟨K, HK⟩ : ∃ K : Nat, Hid (i % n3 = K) := ⟨_, rfl⟩
                have hKn : K < n3 := by rw [← HK.out]; exact Nat.mod_lt _ h3
                have k1 : (i : Int) % (n3 : Int) = (K : Int) := by have := HK.out; omega
                have k2 : (K : Int) < (n3 : Int) := by omega
                have k3 : (0 : Int) ≤ (K : Int) := by omega
                have k4 : ((n3 : Int) == 0) = false := by rw [beq_eq_false_iff_ne]; omega
                have k5 : ((i : Int)).tmod (n3 : Int) = (K : Int) := by rw [Int.tmod_eq_emod_of_nonneg (by omega)]; exact k1
                obtain ⟨r, hr⟩ : ∃ r, l3[K]? = some r := ⟨_, List.getElem?_eq_getElem (by have := HI.out.2.2.1; omega)⟩
                have hfi := hw3 r (List.mem_of_getElem? hr)
                have h0 := hraw K r hr
                obtain ⟨qw, ⟨qs, qr, qt, qg⟩, qe, qp⟩ := r
                have x0 := Lists.cell_below HBw.out h0.what
                have x1 := Lists.cell_below HBw.out h0.size
                have x2 := Lists.cell_below HBw.out h0.root
                have x3 := Lists.cell_below HBw.out h0.time
                have x4 := Lists.cell_below HBw.out h0.sign
                obtain ⟨a5, c5, e5, v5⟩ := h0.ents
                obtain ⟨a6, c6, e6, v6⟩ := h0.proof
                have x5 := Lists.cell_below HBw.out e5
                have x6 := Lists.cell_below HBw.out e6
                simp only at x0 x1 x2 x3 x4 x5 x6 v5 v6
                have z0 := HZr.out.cell (i := 0) (by omega)
                have z1 := HZr.out.cell (i := 1) (by omega)
                have z2 := HZr.out.cell (i := 2) (by omega)
                have z3 := HZr.out.cell (i := 3) (by omega)
                have z4 := HZr.out.cell (i := 4) (by omega)
                have z5 := HZr.out.cell (i := 5) (by omega)
                have z6 := HZr.out.cell (i := 6) (by omega)
                have f0 := HZr.out.frozen 0
                have f1 := HZr.out.frozen 1
                have f2 := HZr.out.frozen 2
                have f3 := HZr.out.frozen 3
                have f4 := HZr.out.frozen 4
                have f5 := HZr.out.frozen 5
                have f6 := HZr.out.frozen 6
                have HEND : Hid (RO (WalkReplies.put7 w18 pr qw qs qr qt qg (.slice a5 qe.length c5) (.slice a6 qp.length c6)) pr ⟨qw, ⟨qs, qr, qt, qg⟩, qe, qp⟩ a5 c5 a6 c6 G ∧ Below w0.heap.size w0 (WalkReplies.put7 w18 pr qw qs qr qt qg (.slice a5 qe.length c5) (.slice a6 qp.length c6))) := by
                  have kS := WalkReplies.kept_put7 w18 pr qw qs qr qt qg (.slice a5 qe.length c5) (.slice a6 qp.length c6)
                  have hl := HPr.out.2.1
                  have hx2 := HX2.out.size
                  have hx0 := HO0.out.bel.size
                  refine ⟨⟨?_, MirOne.wide_kept (v5.below HBw.out) kS fun x h hx s => ?_, MirOne.row_kept (v6.below HBw.out) kS fun x h hx s => ?_, HPr.out.1, fun x h hx s => ?_, fun x h hx s => ?_, hfi⟩, HX2.out.trans (kS.below (fun i s => ?_) HX2.out.size)⟩
                  · exact (((((((HZr.out.set 0 (.int .i64 qw)).set 1 (.int .i64 qs)).set 2 (.int .i64 qr)).set 3 (.int .i64 qt)).set 4 (.int .i64 qg)).set 5 (.slice a5 qe.length c5)).set 6 (.slice a6 qp.length c6)).congr (fun k hk => by match k, hk with | 0, _ | 1, _ | 2, _ | 3, _ | 4, _ | 5, _ | 6, _ => rfl | k + 7, h => omega)
                  · have := MirOne.wide_lt (by omega) v5 x h hx
                    omega
                  · have := MirOne.row_lt v6 x h hx
                    omega
                  · have := MirOne.wide_lt (by omega) v5 x h hx
                    have := (HO0.out.foot _ s).1
                    omega
                  · have := MirOne.row_lt v6 x h hx
                    have := (HO0.out.foot _ s).1
                    omega
                  · rw [s]
                    exact HPr.out.2.1
                clear h0 e5 e6 v5 v6 hfi hraw hr
                go_wp2_with fail
                go_meet
                case rel => exact ⟨_, a5, c5, a6, c6, HEND.out.1, HEND.out.2⟩
              · have i3 : ¬ (0 : Int) < (n3 : Int) := by omega
                have HEND : Hid (RO w18 pr ⟨0, Heads.zero, [], []⟩ none 0 none 0 G) := ⟨HZr.out, Wide.nil _ _ _ _, Row.nil _ _ _, HPr.out.1, fun x h0 => absurd h0 (by simp), fun x h0 => absurd h0 (by simp), ⟨by simp, by simp, fun e he => by cases he⟩⟩
                go_wp2_with fail
                go_meet
                case rel => exact ⟨_, none, 0, none, 0, HEND, HX2⟩
          obtain ⟨r, a5, c5, a6, c6, HRo, HX3⟩ := hcut
          clear HX2 HRv2 HZr HBq HPq t0 t1 HPr HPv HBw
          as_aux_lemma =>
            have HO3 : Hid (One w wc bx G key m) := HO0.out.below HX3.out
            have HH3 : Hid (Wide 2 wc ah m.own.length ch (cells m.own) ∧ ∀ p, ah = some p → ¬ G p.block) := ⟨HH0.out.1.below HX3.out, HH0.out.2⟩
            have HOk2 : Hid (Ok key (hearM key m r)) := Mirrors.hear_ok HOk.out r
            have HPre : Hid (m.own <+: (hearM key m r).own) := Mirrors.hear_first key m r
            have cH := MirOne.hear_one HO3.out (HA.out wc HO3.out.bel) HOk.out HRo.out
            have y0 : wc.cell? ⟨pr, 0, none⟩ = some (.int .i64 r.what) := HRo.out.row.cell (i := 0) (by omega)
            have y1 : wc.cell? ⟨pr, 1, none⟩ = some (.int .i64 r.head.size) := HRo.out.row.cell (i := 1) (by omega)
            have y2 : wc.cell? ⟨pr, 2, none⟩ = some (.int .i64 r.head.root) := HRo.out.row.cell (i := 2) (by omega)
            have y3 : wc.cell? ⟨pr, 3, none⟩ = some (.int .i64 r.head.time) := HRo.out.row.cell (i := 3) (by omega)
            have y4 : wc.cell? ⟨pr, 4, none⟩ = some (.int .i64 r.head.sign) := HRo.out.row.cell (i := 4) (by omega)
            have y5 : wc.cell? ⟨pr, 5, none⟩ = some (.slice a5 r.ents.length c5) := HRo.out.row.cell (i := 5) (by omega)
            have y6 : wc.cell? ⟨pr, 6, none⟩ = some (.slice a6 r.proof.length c6) := HRo.out.row.cell (i := 6) (by omega)
            obtain ⟨E, HE⟩ : ∃ E : Nat, Hid (hearE key m r = E) := ⟨_, rfl⟩
            obtain ⟨M, HM⟩ : ∃ M : Mir, Hid (hearM key m r = M) := ⟨_, rfl⟩
            rw [HE.out, HM.out] at cH
            rw [HM.out] at HOk2 HPre
            obtain ⟨qw, ⟨qs, qr, qt, qg⟩, qe, qp⟩ := r
            simp only [rv] at cH y0 y1 y2 y3 y4 y5 y6
            clear HE HM
            generalize qe.length = ne at *
            generalize qp.length = np at *
            generalize errv E = EV at cH
            go_wp2_with fail
            refine cH.mono ?_
            rintro e w31 ⟨rfl, G1, hb1, hg1, hk1⟩
            have HO4 : Hid (One w w31 bx G1 key M) := hb1
            have hlow : ∀ p, 0 < m.own.length → ah = some p → ¬ G p.block := fun p _ hp => HH3.out.2 p hp
            have HH4 : Hid (Wide 2 w31 ah m.own.length ch (cells m.own)) := MirOne.wide_kept HH3.out.1 hk1 hlow
            clear cH hb1 hg1 hk1 y0 y1 y2 y3 y4 y5 y6 hlow HRo HO3 HH3 HX3 HO0 HH0
            have cE := MirOne.entries_one HO4.out HOk2.out
            go_wp2_with fail
            refine cE.mono ?_
            rintro e w32 ⟨v32, rfl, o32, b32⟩
            obtain ⟨a20, c20, rfl, r32⟩ := owns_wide o32
            have HN : Hid (∀ w', Below w32.heap.size w32 w' → Wide 2 w' a20 M.own.length c20 (cells M.own)) := fun w' b' => r32.below b'
            have HO5 : Hid (One w w32 bx G1 key M) := HO4.out.below b32
            have HNf : Hid (∀ p, a20 = some p → ¬ G1 p.block) := fun p hp q => by
              have h1 := Wides.owns_fresh o32 p hp
              have h2 := (HO4.out.foot _ q).2
              omega
            have HH5 : Hid (Wide 2 w32 ah m.own.length ch (cells m.own)) := HH4.out.below b32
            clear cE o32 b32 r32 HO4 HH4
            have hpl : m.own.length ≤ M.own.length := HPre.out.length_le
            have hcap2 : M.own.length ≤ c20 := (HN.out w32 (Below.refl _ _)).2.1
            have hfew := HOk2.out.few
            have htk : M.own.take m.own.length = m.own := (List.prefix_iff_eq_take.1 HPre.out).symm
            have cSm := WalkEntsSame.entries_same m.own a20 ah m.own.length c20 ch w32 (by have h := EntCuts.first (HN.out w32 (Below.refl _ _)) m.own.length hpl; rw [htk] at h; exact h) HH5.out (by omega)
            generalize hLm : m.own.length = Lm at *
            generalize hLM : M.own.length = LM at *
            have i5 : ¬ (LM : Int) < (Lm : Int) := by omega
            have i6 : (Lm : Int) ≤ (LM : Int) := by omega
            have i7 : (Lm : Int) ≤ (c20 : Int) := by omega
            have i8 : (0 : Int) ≤ (Lm : Int) := by omega
            have HLM : Hid (M.own.length = LM) := hLM
            clear htk hLm hLM
            go_wp2_with fail
            refine cSm.mono ?_
            rintro e w33 ⟨rfl, b33⟩
            have HO6 : Hid (One w w33 bx G1 key M) := HO5.out.below b33
            have HN6 : Hid (∀ w', Below w33.heap.size w33 w' → Wide 2 w' a20 LM c20 (cells M.own)) := fun w' b' => HN.out w' (bt b33 b')
            have cS := MirOne.size_one HO6.out
            rw [HLM.out] at cS
            clear cSm b33 HO5 HN HH5
            go_wp2_with fail
            refine cS.mono ?_
            rintro e w34 ⟨rfl, b34⟩
            have HO7 : Hid (One w w34 bx G1 key M) := HO6.out.below b34
            have HN7 : Hid (∀ w', Below w34.heap.size w34 w' → Wide 2 w' a20 LM c20 (cells M.own)) := fun w' b' => HN6.out w' (bt b34 b')
            clear cS b34 HO6 HN6
            have HG : Hid (i + 1 ≤ 60 ∧ i + 1 ≤ n2) := by show _ ∧ _; omega
            by_cases hz : LM = 0
            · have e0 : ((LM : Int) == 0) = true := by rw [hz]; rfl
              have HNf7 : Hid (Wide 2 w34 a20 M.own.length c20 (cells M.own) ∧ ∀ p, a20 = some p → ¬ G1 p.block) := ⟨by rw [HLM.out]; exact HN7.out w34 (Below.refl _ _), HNf.out⟩
              subst hz
              go_wp2_with fail
              go_roundw
              case rel => exact ⟨i + 1, M, G1, a20, c20, HG.out.1, HG.out.2, by go_num, by rw [HLM.out], HO7, HOk2, HNf7⟩
              case measure => have := HG.out; simp [intOf]; omega
            · have e0 : ((LM : Int) == 0) = false := by rw [beq_eq_false_iff_ne]; omega
              obtain ⟨v1, v2, v3⟩ := has_some HOk2.out (by rw [HLM.out]; exact hz)
              rw [HLM.out] at v2
              have cHd := MirOne.head_one HO7.out
              have hen := has_ents HOk2.out
              obtain ⟨l7, l8⟩ := GrowRight.leafs_is hen
              have HLf : Hid (∀ w', Below w34.heap.size w34 w' → Calls Tryz.prog 37 #[.slice a20 LM c20] w' fun e w'' => ∃ av cv, e = .returned (.tuple #[.slice av LM cv, .nilIface]) ∧ Row w'' av LM cv (ints (leafsOf M.own)) ∧ Below w'.heap.size w' w'') := fun w' b' => by
                refine (WalkEnt.leafs_any M.own a20 LM c20 w' (HN7.out w' b') (fun e he => by have h := (Entries.ent_ok (HOk2.out.own e he)).2.2; unfold maxLen; omega)).mono ?_
                rintro e w'' ⟨v, rfl, ov, bv⟩
                rw [l8, HLM.out, l7] at ov
                obtain ⟨av, cv, rfl, hrv, _⟩ := Keeps.owns_row ov
                exact ⟨av, cv, by rw [hen, errv0], hrv, bv⟩
              have hle : Trees.leafsE (leafsOf M.own) = 0 := GrowsE.leafs_zero (by rw [Serves.leafs_len]; exact HOk2.out.few) (GrowRight.leafs_valid _)
              have HRt : Hid (∀ w' av cv, Row w' av LM cv (ints (leafsOf M.own)) → Calls Tryz.prog 38 #[.slice av LM cv] w' fun e w'' => e = .returned (.tuple #[.int .i64 (rootE M.own), .nilIface]) ∧ Below w'.heap.size w' w'') := fun w' av cv hr' => by
                have h := WalkCheck.root_any (leafsOf M.own) av LM cv w' hr'
                rw [hle, show Trees.rootV (leafsOf M.own) = rootE M.own from if_pos hle] at h
                exact h
              have HRo2 : Hid (∀ w', Below w34.heap.size w34 w' → Calls Tryz.prog 33 #[.pointer (some ⟨bx, 0, none⟩)] w' fun e w'' => e = .returned (.int .i64 (rootE M.own)) ∧ Below w'.heap.size w' w'') := fun w' b' => MirOne.root_one (HO7.out.below b') HOk2.out
              have HVf : Hid (∀ w', Below w34.heap.size w34 w' → Calls Tryz.prog 39 #[hv M.head, .int .i64 key] w' fun e w'' => e = .returned .nilIface ∧ Below w'.heap.size w' w'') := fun w' b' => by
                have h := WalkHdSign.verify_any M.head key w' (HT.out w' (HO7.out.below b').bel)
                rw [v1, errv0] at h
                exact h
              unfold hv at cHd HVf
              rw [v2, v3] at cHd HVf
              generalize M.head.time = ht at cHd HVf
              generalize M.head.sign = hs at cHd HVf
              have eR : (rootE M.own != rootE M.own) = false := by simp
              generalize rootE M.own = RT at cHd HVf HRo2 HRt eR
              have eL : ((LM : Int) != (LM : Int)) = false := by simp
              clear v1 v2 v3 hen l7 l8 hle
              go_wp2_with fail
              refine cHd.mono ?_
              rintro e w35 ⟨rfl, b35⟩
              have HB36 : Hid (Below w34.heap.size w34 (w35.alloc (.cells #[.int .i64 (LM : Int), .int .i64 RT, .int .i64 ht, .int .i64 hs] 60))) := b35.alloc b35.size _
              clear cHd b35
              go_upto_region 36 with fail
              have hh5 : (w35.alloc (.cells #[.int .i64 (LM : Int), .int .i64 RT, .int .i64 ht, .int .i64 hs] 60)).rowIs w35.heap.size 60 4 (fun j => if j = 0 then .int .i64 (LM : Int) else if j = 1 then .int .i64 RT else if j = 2 then .int .i64 ht else .int .i64 hs) := World.rowIs_alloc _ _ _ _ (fun j hj => by match j, hj with | 0, _ | 1, _ | 2, _ | 3, _ => rfl | j + 4, h => simp at h; omega)
              generalize w35.alloc (.cells #[.int .i64 (LM : Int), .int .i64 RT, .int .i64 ht, .int .i64 hs] 60) = w36 at HB36 hh5 ⊢
              generalize w35.heap.size = gh at hh5 ⊢
              have HCe : Hid (∀ w', Below w36.heap.size w36 w' → w'.cell? ⟨gh, 0, none⟩ = some (.int .i64 (LM : Int)) ∧ w'.cell? ⟨gh, 1, none⟩ = some (.int .i64 RT) ∧ w'.cell? ⟨gh, 2, none⟩ = some (.int .i64 ht) ∧ w'.cell? ⟨gh, 3, none⟩ = some (.int .i64 hs)) := fun w' b' => by
                have h := hh5.of_block (b'.block _ hh5.lt)
                exact ⟨h.cell (i := 0) (by omega), h.cell (i := 1) (by omega), h.cell (i := 2) (by omega), h.cell (i := 3) (by omega)⟩
              clear hh5
              go_wp2_with fail
              refine (HLf.out w36 HB36.out).mono ?_
              rintro e w37 ⟨av, cv, rfl, hrv, b37⟩
              have HB37 : Hid (Below w36.heap.size w36 w37) := b37
              clear b37
              go_wp2_with fail
              refine (HRt.out w37 av cv hrv).mono ?_
              rintro e w38 ⟨rfl, b38⟩
              have HB38 : Hid (Below w36.heap.size w36 w38) := bt HB37.out b38
              obtain ⟨s0, s1, s2, s3⟩ := HCe.out w38 HB38.out
              clear b38 hrv HB37 HRt HLf
              go_wp2_with fail
              refine (HRo2.out w38 (bt HB36.out HB38.out)).mono ?_
              rintro e w39 ⟨rfl, b39⟩
              have HB39 : Hid (Below w36.heap.size w36 w39) := bt HB38.out b39
              obtain ⟨s0, s1, s2, s3⟩ := HCe.out w39 HB39.out
              clear b39 HB38 HRo2
              go_wp2_with fail
              refine (HVf.out w39 (bt HB36.out HB39.out)).mono ?_
              rintro e w40 ⟨rfl, b40⟩
              have HB40 : Hid (Below w34.heap.size w34 w40) := bt (bt HB36.out HB39.out) b40
              have HO8 : Hid (One w w40 bx G1 key M) := HO7.out.below HB40.out
              have HNf7 : Hid (Wide 2 w40 a20 M.own.length c20 (cells M.own) ∧ ∀ p, a20 = some p → ¬ G1 p.block) := ⟨by rw [HLM.out]; exact HN7.out w40 HB40.out, HNf.out⟩
              clear b40 HVf HB39 HB36 HB40 HCe s0 s1 s2 s3
              go_wp2_with fail
              go_roundw
              case rel => exact ⟨i + 1, M, G1, a20, c20, HG.out.1, HG.out.2, by go_num, by rw [HLM.out], HO8, HOk2, HNf7⟩
              case measure => have := HG.out; simp [intOf]; omega

end Go.Proofs.YtjacioplocmciagGreatDoor.WalkMirrorTrusts
