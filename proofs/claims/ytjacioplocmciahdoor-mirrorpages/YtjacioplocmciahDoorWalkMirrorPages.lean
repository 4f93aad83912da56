/-
  The walk of MirrorPages: page by page.
-/
import Derived.Test.YtjacioplocmciahDoorSePlain
import Derived.Test.YtjacioplocmciahDoorWalkMiOff
import Derived.Test.YtjacioplocmciahDoorWalkSe
import Derived.Test.YtjacioplocmciahDoorWalkSome
import Derived.Test.YtjacioplocmciahDoorEntCuts
import Derived.Deep.RegionHeld3
import Derived.Deep.CutBlock
namespace Go.Proofs.YtjacioplocmciahDoor.WalkMirrorPages
open Go.RowKit
open Lists (bt Row ints)
open Keeps (Kept owns_kept)
open Wides (Wide owns_wide)
open Entries (Entry entE entsE)
open EntRows (cells)
open Errs (errv errv0 errv_pos)
open Heads (isKey Head)
open Mirrors (Mir Reply Ok hearE hearM)
open ReplyRows (RFine)
open MirVals (rv wv aggR sizeR aggW sizeW)
open HeadVals (hv aggH sizeH)
open WalkMiOff (Off)
open Somes (some_)
open Answers (logE logH)
open Follows (Goes At)

theorem want_what (x y z : Int) (w : World) : (Instr.field 38 (.agg #[.int .i64 x, .int .i64 y, .int .i64 z]) 0).run Tryd.prog w = .ok (.int .i64 x) w := by kernel_rfl
/-- where it stands: at c of n -/
def Is (n c : Nat) (m : Mir) : Prop := if c = n then At 7 (some_ n) n m else Goes 7 0 (some_ n) 0 n c m
theorem log_some {n : Nat} (h : n ≤ 100) : logE (some_ n) 7 0 = 0 := Serves.log_zero (Somes.some_ok (by omega)) (by decide) (by decide) (by decide)
theorem take_all (n : Nat) : (some_ n).take n = some_ n := List.take_of_length_le (by rw [Somes.some_length]; exact Nat.le_refl _)
/-- the head is heard -/
theorem is_head {n : Nat} (h : n ≤ 100) : hearE 7 Mirrors.start ⟨1, logH (some_ n) 7 0, [], []⟩ = 0 ∧ Is n 0 (hearM 7 Mirrors.start ⟨1, logH (some_ n) 7 0, [], []⟩) := by
  have hh := Follows.hear_head (now := 0) (Follows.start_at 7 (some_ n)) (Nat.zero_le n) (by rw [Somes.some_length]; exact Nat.le_refl _) (by rw [take_all]; exact log_some h)
  rw [take_all] at hh
  refine ⟨hh.1, ?_⟩
  unfold Is
  by_cases e : 0 = n
  · rw [if_pos e]; exact hh.2.2 e
  · rw [if_neg e]; exact hh.2.1 (by omega)
/-- a page is wanted, and heard -/
theorem is_page {n c : Nat} {m : Mir} (h : Is n c m) (hc : c < n) (d : Nat) (hd : d = min (c + 16) n) : m.want = ⟨2, (c : Int), (d : Int)⟩ ∧ hearE 7 m ⟨2, Heads.zero, ((some_ n).take d).drop c, []⟩ = 0 ∧ Is n d (hearM 7 m ⟨2, Heads.zero, ((some_ n).take d).drop c, []⟩) := by
  unfold Is at h
  rw [if_neg (by omega)] at h
  have hw := h.want
  rw [if_neg (by omega), ← hd] at hw
  have hp := Follows.hear_page h (by omega) ⟨2, Heads.zero, ((some_ n).take d).drop c, []⟩ rfl (by rw [← hd])
  rw [← hd] at hp
  refine ⟨hw, hp.1, ?_⟩
  unfold Is
  by_cases e : d = n
  · rw [if_pos e]; exact hp.2.1 ⟨rfl, e⟩
  · rw [if_neg e]; exact hp.2.2 fun q => e q.2

set_option maxHeartbeats 8000000 in
set_option maxRecDepth 100000 in
theorem walk (n0 : Int) (_ : (Lit.int .i64 n0).wf = true) (w : World) (hK : WalkHdLib.Tabs w) :
    Calls Tryd.prog 3 #[.int .i64 n0] w fun e w' => e = .returned (.bool true) ∧ Below w.heap.size w w' := by
  have hP : WalkMi.Asks w := hK
  have hQ : WalkSe.Asks w := hK
  have HA : Hid (∀ w1, Below w.heap.size w w1 → WalkMi.Asks w1) := fun w1 h => hP.below h
  have HQ : Hid (∀ w1, Below w.heap.size w w1 → WalkSe.Asks w1) := fun w1 h => hQ.below h
  have aR := aggR
  have zR := sizeR
  have aW := aggW
  have zW := sizeW
  have aH := aggH
  have zH := sizeH
  have hk7 : isKey 7 = true := by decide
  have cN := WalkMi.new_any 7 w w.heap.size (Nat.le_refl _) (HA.out w (Below.refl _ _))
  rw [if_pos hk7, errv0] at cN
  clear hK hP hQ
  go_enter Tryd.func3, Tryd.ntmps3
  go_wp2_with fail
  refine cN.mono ?_
  rintro e w1 ⟨v, rfl, hv, b1⟩
  obtain ⟨b, F, rfl, hmi, _⟩ := hv hk7
  have HO : Hid (Off (fun _ => False) w b 7 Mirrors.start w1) := ⟨⟨F, hmi, fun _ q => q.elim⟩, fun _ q => q.elim, b1, Mirrors.start_ok 7⟩
  clear cN hv hmi b1
  by_cases h0 : n0 < 0
  · have HB : Hid (Below w.heap.size w w1) := HO.out.below
    go_wp2_with fail
    go_ret
    exact ⟨rfl, HB.out⟩
  by_cases h1 : 100 < n0
  · have HB : Hid (Below w.heap.size w w1) := HO.out.below
    go_wp2_with fail
    go_ret
    exact ⟨rfl, HB.out⟩
  obtain ⟨n, rfl⟩ := Int.eq_ofNat_of_zero_le (Int.not_lt.1 h0)
  have hn : n ≤ 100 := by omega
  go_wp2_with fail
  refine (WalkSome.some_any n (by omega) w1).mono ?_
  rintro e w2 ⟨v2, rfl, o2, b2⟩
  obtain ⟨a2, c2, rfl, hw2⟩ := owns_wide o2
  obtain ⟨T, HTe⟩ : ∃ T : Nat → Prop, Hid (∀ k, T k ↔ (Value.slice a2 n c2).ownBlock = some k) := ⟨fun k => (Value.slice a2 n c2).ownBlock = some k, fun _ => Iff.rfl⟩
  have HL : Hid (∀ w3, Kept (fun k => ¬ T k) w2 w3 → Wide 2 w3 a2 n c2 (cells (some_ n))) := fun w3 k3 => by
    have h := owns_kept o2 k3 fun i hi q => q ((HTe.out i).2 hi)
    exact (Wides.Wide.of_owns h).2
  have HO2 : Hid (Off T w b 7 Mirrors.start w2) := HO.out.more b2 fun i hi => .inr (o2.lt i ((HTe.out i).1 hi))
  have HTp : Hid (∀ p, a2 = some p → T p.block) := fun p hp => (HTe.out _).2 (by rw [hp]; rfl)
  have HSz : Hid (∀ e ∈ some_ n, e.2.size ≤ maxLen) := fun e he => by
    have h1 := (Entries.ents_ok (Somes.some_ok (show n ≤ 200 by omega))).2 e he
    have h2 := (Entries.ent_ok h1).2.2
    unfold maxLen
    omega
  have cH := WalkSe.head_any (some_ n) a2 n c2 7 0 w2 hw2 HSz.out (HQ.out w2 HO2.out.below)
  rw [log_some hn, errv0] at cH
  obtain ⟨e1, e2⟩ := is_head hn
  have HI : Hid (Is n 0 (hearM 7 Mirrors.start ⟨1, logH (some_ n) 7 0, [], []⟩)) := e2
  have HE : Hid (hearE 7 Mirrors.start ⟨1, logH (some_ n) 7 0, [], []⟩ = 0) := e1
  generalize logH (some_ n) 7 0 = H at cH HI HE
  obtain ⟨h1', h2', h3', h4'⟩ := H
  unfold hv at cH
  simp only at cH
  have HHr : Hid (∀ w3, Below w2.heap.size w2 w3 → Calls Tryd.prog 7 #[.pointer (some ⟨b, 0, none⟩), .agg #[.int .i64 1, .int .i64 h1', .int .i64 h2', .int .i64 h3', .int .i64 h4', .slice none 0 0, .slice none 0 0]] w3 fun e w' => e = .returned .nilIface ∧ Off T w b 7 (hearM 7 Mirrors.start ⟨1, ⟨h1', h2', h3', h4'⟩, [], []⟩) w' ∧ Kept (fun k => ¬ T k) w2 w') := fun w3 b3 => by
    refine (WalkMiOff.hear_off (HO2.out.stays b3) (HA.out w3 (HO2.out.stays b3).below) ⟨1, ⟨h1', h2', h3', h4'⟩, [], []⟩ ⟨Nat.zero_le _, Nat.zero_le _, fun e he => by cases he⟩ none 0 none 0 (Wide.nil _ _ _ _) (Row.nil _ _ _) (fun p h0 => by cases h0) (fun p h0 => by cases h0)).mono ?_
    rintro e w' ⟨rfl, q1, q2⟩
    exact ⟨by rw [HE.out, errv0], q1, (Kept.of_below _ b3).trans q2 fun i hi => .inl hi⟩
  clear b2 hw2 o2 HO e1 e2
  go_wp2_with fail
  refine cH.mono ?_
  rintro e w3 ⟨rfl, b3⟩
  have HB3 : Hid (Below w2.heap.size w2 (w3.alloc (.cells #[.int .i64 h1', .int .i64 h2', .int .i64 h3', .int .i64 h4'] 30))) := b3.alloc b3.size _
  clear cH b3
  go_wp2_with fail
  refine (HHr.out _ HB3.out).mono ?_
  rintro e w4 ⟨rfl, q1, q2⟩
  have HS : Hid (∃ m, Is n 0 m ∧ Off T w b 7 m w4) := ⟨_, HI.out, q1⟩
  have HK : Hid (Kept (fun k => ¬ T k) w2 w4) := q2
  clear HHr HB3 q1 q2 HI HE
  go_upto_region 9 with fail
  go_loopw [2, 7, 8, 9] (fun _ av _ _ wr => ∃ c : Nat, c ≤ n ∧ av = .int .i64 (c : Int) ∧ Hid (∃ m, Is n c m ∧ Off T w b 7 m wr) ∧ Hid (Kept (fun k => ¬ T k) w2 wr)) (fun _ av _ _ _ => n - (intOf av).toNat)
  case atStart => exact ⟨0, Nat.zero_le _, rfl, HS, HK⟩
  case round =>
    clear HS HK
    obtain ⟨c, hc, rfl, HS, HK⟩ := hrel
    by_cases hlt : c < n
    · obtain ⟨m, hI, hO⟩ := HS.out
      obtain ⟨d, hd⟩ : ∃ d, d = min (c + 16) n := ⟨_, rfl⟩
      obtain ⟨p1, p2, p3⟩ := is_page hI hlt d hd
      have HO3 : Hid (Off T w b 7 m wr) := hO
      have HI3 : Hid (Is n d (hearM 7 m ⟨2, Heads.zero, ((some_ n).take d).drop c, []⟩)) := p3
      have HE3 : Hid (hearE 7 m ⟨2, Heads.zero, ((some_ n).take d).drop c, []⟩ = 0) := p2
      have cW := WalkMiOff.want_off hO
      rw [p1] at cW
      unfold wv at cW
      simp only at cW
      have hln : (((some_ n).take d).drop c).length = d - c := by rw [List.length_drop, List.length_take, Somes.some_length]; omega
      obtain ⟨g, off, rfl, _⟩ := (HL.out wr HK.out).2.2 (by omega)
      have hcap := (HL.out wr HK.out).2.1
      have HHr : Hid (∀ w5, Below wr.heap.size wr w5 → Calls Tryd.prog 7 #[.pointer (some ⟨b, 0, none⟩), .agg #[.int .i64 2, .int .i64 0, .int .i64 0, .int .i64 0, .int .i64 0, .slice (some ⟨g, off + c * 2, none⟩) (d - c) (c2 - c), .slice none 0 0]] w5 fun e w' => e = .returned .nilIface ∧ (∃ m, Is n d m ∧ Off T w b 7 m w') ∧ Kept (fun k => ¬ T k) w2 w') := fun w5 b5 => by
        have k5 : Kept (fun k => ¬ T k) w2 w5 := HK.out.then b5
        have h5 := EntCuts.cut (HL.out w5 k5) c d (by omega) (by omega)
        have hh := WalkMiOff.hear_off (HO3.out.stays b5) (HA.out w5 (HO3.out.stays b5).below) ⟨2, Heads.zero, ((some_ n).take d).drop c, []⟩ ⟨by show (((some_ n).take d).drop c).length ≤ _; omega, Nat.zero_le _, fun e he => HSz.out e (List.mem_of_mem_take (List.mem_of_mem_drop he))⟩ (some ⟨g, off + c * 2, none⟩) (c2 - c) none 0 (by show Wide _ _ _ (((some_ n).take d).drop c).length _ _; rw [hln]; exact h5) (Row.nil _ _ _) (fun p _ hp => by simp only [Option.some.injEq] at hp; subst hp; exact .inr (show T g from HTp.out ⟨g, off, none⟩ rfl)) (fun p h0 => by cases h0)
        unfold rv at hh
        simp only [hln] at hh
        refine hh.mono ?_
        rintro e w' ⟨rfl, q1, q2⟩
        exact ⟨by rw [HE3.out, errv0], ⟨_, HI3.out, q1⟩, k5.trans q2 fun i hi => .inl hi⟩
      have i1 : (c : Int) < (n : Int) := by omega
      have d1 : ¬ c2 = c := by omega
      have j1 : (c : Int) ≤ (d : Int) := by omega
      have j2 : (d : Int) ≤ (n : Int) := by omega
      have j3 : (d : Int) ≤ (c2 : Int) := by omega
      have j4 : (c : Int) ≤ (c2 : Int) := by omega
      clear hI hO p1 p2 p3 HI3 HE3 HS HTe
      have HD : Hid (d = min (c + 16) n ∧ c < d ∧ d ≤ n) := ⟨hd, by omega, by omega⟩
      clear hd hln
      go_wp2_with fail
      refine cW.mono ?_
      rintro e w5 ⟨rfl, o5, b5⟩
      have HB5 : Hid (Below wr.heap.size wr (w5.alloc (.cells #[.int .i64 2, .int .i64 (c : Int), .int .i64 (d : Int)] 38))) := b5.alloc b5.size _
      clear cW o5 b5
      go_upto_region 12 with fail
      generalize hw6 : w5.alloc (.cells #[.int .i64 2, .int .i64 (c : Int), .int .i64 (d : Int)] 38) = w6 at HB5 ⊢
      have r0 : w6.cell? ⟨w5.heap.size, 0, none⟩ = some (.int .i64 2) := by rw [← hw6]; simp
      have r1 : w6.cell? ⟨w5.heap.size, 1, none⟩ = some (.int .i64 (c : Int)) := by rw [← hw6]; simp
      have r2 : w6.cell? ⟨w5.heap.size, 2, none⟩ = some (.int .i64 (d : Int)) := by rw [← hw6]; simp
      clear hw6
      go_upto_if 51 with fail
      go_cut [9] from 52 to 52 (fun v wc => v = .int .i64 (d : Int) ∧ w6 = wc)
      case first => as_aux_lemma =>
        by_cases hg : n < c + 16
        · have i2 : (n : Int) < (c : Int) + 16 := by omega
          obtain rfl : d = n := by have := HD.out; omega
          go_wp2_with fail
          go_meet
          case rel => exact ⟨rfl, rfl⟩
        · have i2 : ¬ (n : Int) < (c : Int) + 16 := by omega
          go_wp2_with fail
          go_meet
          case rel => exact ⟨by rw [show (c : Int) + 16 = (d : Int) by have := HD.out; omega], rfl⟩
      obtain ⟨rfl, rfl⟩ := hcut
      go_wp2_with fail
      refine (HHr.out _ HB5.out).mono ?_
      rintro e w7 ⟨rfl, q1, q2⟩
      have HS7 : Hid (∃ m, Is n d m ∧ Off T w b 7 m w7) := q1
      have HK7 : Hid (Kept (fun k => ¬ T k) w2 w7) := q2
      clear HHr HB5 q1 q2
      go_wp2_with fail
      go_roundw
      case rel => exact ⟨d, HD.out.2.2, rfl, HS7, HK7⟩
      case measure => have := HD.out; simp [intOf]; omega
    · obtain rfl : c = n := by omega
      obtain ⟨m, hI, hO⟩ := HS.out
      unfold Is at hI
      rw [if_pos rfl] at hI
      have cS := WalkMiOff.size_off hO
      rw [hI.size] at cS
      have HW : Hid (∀ w5, Off T w b 7 m w5 → Calls Tryd.prog 8 #[.pointer (some ⟨b, 0, none⟩)] w5 fun e w' => e = .returned (.agg #[.int .i64 1, .int .i64 0, .int .i64 0]) ∧ Below w.heap.size w w') := fun w5 o5 => by
        have h := WalkMiOff.want_off o5
        rw [hI.want] at h
        refine h.mono ?_
        rintro e w' ⟨rfl, q1, _⟩
        exact ⟨rfl, q1.below⟩
      have i1 : ¬ (c : Int) < (c : Int) := by omega
      clear hI hO HS HTe
      go_wp2_with fail
      refine cS.mono ?_
      rintro e w5 ⟨rfl, o5, _⟩
      clear cS
      go_wp2_with fail
      refine (HW.out w5 o5).mono ?_
      rintro e w6 ⟨rfl, b6⟩
      have fW := want_what 1 0 0
      go_wp2_with fail
      go_ret
      exact ⟨rfl, b6⟩

end Go.Proofs.YtjacioplocmciahDoor.WalkMirrorPages
