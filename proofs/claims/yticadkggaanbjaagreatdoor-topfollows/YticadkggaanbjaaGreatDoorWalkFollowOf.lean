/-
  What wittop.follow does, for entries that were there ahead of all or are the caller's own: a mirror that begins, and hears the head of a log of some entries and then these page by page, has all of them, and the log's head; and of a log of none.
-/
import Derived.Test.YticadkggaanbjaaGreatDoorSePlain
import Derived.Test.YticadkggaanbjaaGreatDoorFolPlain
import Derived.Test.YticadkggaanbjaaGreatDoorWalkMiOff
import Derived.Deep.RegionHeld3
import Derived.Deep.CutBlock
namespace Go.Proofs.YticadkggaanbjaaGreatDoor.WalkFollowOf
open Go.RowKit
open Lists (bt Row ints)
open Keeps (Kept)
open Wides (Wide)
open Entries (Entry entE entsE)
open EntRows (cells)
open Errs (errv errv0 errv_pos)
open Heads (Head)
open Mirrors (Mir Reply Ok hearE hearM)
open ReplyRows (RFine)
open MirVals (rv wv aggR sizeR aggW sizeW)
open HeadVals (hv aggH sizeH)
open WalkMiOff (Off)
open Answers (logE logH)
open Follows (Goes At)

theorem want_what (x y z : Int) (w : World) : (Instr.field 124 (.agg #[.int .i64 x, .int .i64 y, .int .i64 z]) 0).run Tryz.prog w = .ok (.int .i64 x) w := by kernel_rfl
/-- on its way: k pages are behind it -/
def On (key : Int) (l : List Entry) (t k : Nat) (m : Mir) : Prop := (At key l t m ∧ m.head = logH (l.take t) key 0 ∧ k ≤ 20) ∨ ∃ c, Goes key 0 l 0 t c m ∧ 16 * k ≤ c ∧ c < t

set_option maxHeartbeats 16000000 in
set_option maxRecDepth 100000 in
theorem follow_of {T : Nat → Prop} {w0 w : World} {b : Nat} {key : Int} (hO : Off T w0 b key Mirrors.start w) (l : List Entry) (a : Option Addr) (n cap : Nat) (hl : ∀ w1, Kept (fun k => ¬ T k) w w1 → Below w0.heap.size w0 w1 → Wide 2 w1 a n cap (cells l)) (hd0 : ∀ p, a = some p → p.block < w0.heap.size ∨ T p.block) (hz : ∀ e ∈ l, e.2.size ≤ maxLen) (hA : ∀ w1, Below w0.heap.size w0 w1 → WalkMi.Asks w1) (hn : 1 ≤ n) (hE : logE l key 0 = 0) :
    Calls Tryz.prog 21 #[.pointer (some ⟨b, 0, none⟩), .slice a n cap, hv (logH l key 0)] w fun e w' => e = .returned (.bool true) ∧ (∃ m, At key l n m ∧ m.head = logH l key 0 ∧ Off T w0 b key m w') ∧ Kept (fun k => ¬ T k) w w' := by
  have hr := hl w (Kept.refl _ _) hO.below
  have hln := EntRows.len_of hr
  have ht2 : n ≤ 200 := by have := (Entries.ents_ok (Answers.log_ok hE).1).1; omega
  have hcap := hr.2.1
  have HL : Hid (∀ w1, Kept (fun k => ¬ T k) w w1 → Below w0.heap.size w0 w1 → Wide 2 w1 a n cap (cells l)) := hl
  have HA : Hid (∀ w1, Below w0.heap.size w0 w1 → WalkMi.Asks w1) := hA
  have HSz : Hid (∀ e ∈ l, e.2.size ≤ maxLen) := hz
  have htk : l.take n = l := List.take_of_length_le (by omega)
  obtain ⟨ga, oa, rfl, _⟩ := hr.2.2 (by omega)
  have HLt : Hid (ga < w0.heap.size ∨ T ga) := hd0 _ rfl
  have HTk : Hid (l.take n = l) := htk
  have HHead : Hid (hearE key Mirrors.start ⟨1, logH l key 0, [], []⟩ = 0 ∧ On key l n 0 (hearM key Mirrors.start ⟨1, logH l key 0, [], []⟩)) := by
    have hh := Follows.hear_head (now := 0) (t := n) (Follows.start_at key l) (Nat.zero_le _) (by omega) (by rw [htk]; exact hE)
    rw [htk] at hh
    exact ⟨hh.1, .inr ⟨0, hh.2.1 (by omega), by omega, by omega⟩⟩
  have aR := aggR
  have zR := sizeR
  have aW := aggW
  have zW := sizeW
  have aH := aggH
  have zH := sizeH
  have fW1 := want_what 1 0 0
  have HHr : Hid (∀ w7, Below w.heap.size w w7 → Calls Tryz.prog 81 #[.pointer (some ⟨b, 0, none⟩), rv ⟨1, logH l key 0, [], []⟩ none 0 none 0] w7 fun e w' => e = .returned .nilIface ∧ (∃ m, On key l n 0 m ∧ Off T w0 b key m w') ∧ Kept (fun k => ¬ T k) w w') := fun w7 b7 => by
    have hO7 := hO.stays b7
    refine (WalkMiOff.hear_off hO7 (HA.out w7 hO7.below) ⟨1, logH l key 0, [], []⟩ ⟨Nat.zero_le _, Nat.zero_le _, fun e he => by cases he⟩ none 0 none 0 (Wide.nil _ _ _ _) (Row.nil _ _ _) (fun p h0 => by cases h0) (fun p h0 => by cases h0)).mono ?_
    rintro e w' ⟨rfl, q1, q2⟩
    exact ⟨by rw [HHead.out.1, errv0], ⟨_, HHead.out.2, q1⟩, (Kept.of_below _ b7).trans q2 fun i hi => .inl hi⟩
  obtain ⟨H, HXH⟩ : ∃ H, Hid (logH l key 0 = H) := ⟨_, rfl⟩
  rw [HXH.out] at HHr ⊢
  obtain ⟨x1, x2, x3, x4⟩ := H
  unfold rv at HHr
  unfold hv
  simp only [List.length_nil] at HHr ⊢
  clear hr hl hd0 hz hA hO hE HHead htk
  go_enter Tryz.func21, Tryz.ntmps21
  go_wp2_with fail
  refine (HHr.out _ ((Below.refl _ _).alloc (Nat.le_refl _) _)).mono ?_
  rintro e w8 ⟨rfl, q1, q2⟩
  have HS : Hid (∃ m, On key l n 0 m ∧ Off T w0 b key m w8) := q1
  have HK : Hid (Kept (fun k => ¬ T k) w w8) := q2
  clear HHr q1 q2
  go_upto_region 4 with fail
  go_loopw [7] (fun kv wi => ∃ k : Nat, k ≤ 30 ∧ kv = .int .i64 (k : Int) ∧ Hid (∃ m, On key l n k m ∧ Off T w0 b key m wi) ∧ Hid (Kept (fun k => ¬ T k) w wi)) (fun kv _ => 30 - (intOf kv).toNat)
  case atStart => exact ⟨0, by omega, rfl, HS, HK⟩
  case round =>
    clear HS HK
    obtain ⟨k, hk30, rfl, HS, HK⟩ := hrel
    obtain ⟨m, hOn, hOf⟩ := HS.out
    have HOf : Hid (Off T w0 b key m wr) := hOf
    rcases hOn with ⟨hAt, hhd, hk20⟩ | ⟨c, hG, hkc, hct⟩
    · have i3 : (k : Int) < 30 := by omega
      have HAt : Hid (At key l n m ∧ m.head = logH l key 0) := ⟨hAt, by rw [hhd, HTk.out]⟩
      have HW1 : Hid (∀ w9, Off T w0 b key m w9 → Calls Tryz.prog 82 #[.pointer (some ⟨b, 0, none⟩)] w9 fun e w' => e = .returned (.agg #[.int .i64 1, .int .i64 0, .int .i64 0]) ∧ Off T w0 b key m w' ∧ Below w9.heap.size w9 w') := fun w9 o9 => by
        have h := WalkMiOff.want_off o9
        rw [hAt.want] at h
        exact h
      have HSz1 : Hid (∀ w9, Off T w0 b key m w9 → Calls Tryz.prog 83 #[.pointer (some ⟨b, 0, none⟩)] w9 fun e w' => e = .returned (.int .i64 (n : Int)) ∧ Off T w0 b key m w' ∧ Below w9.heap.size w9 w') := fun w9 o9 => by
        have h := WalkMiOff.size_off o9
        rw [hAt.size] at h
        exact h
      have enn : ((n : Int) == (n : Int)) = true := by simp
      clear hAt hhd hOf HS
      go_wp2_with fail
      refine (HW1.out wr HOf.out).mono ?_
      rintro e w9 ⟨rfl, o9, b9⟩
      have HO9 : Hid (Off T w0 b key m w9) := o9
      have HK9 : Hid (Kept (fun k => ¬ T k) w w9) := HK.out.then b9
      clear o9 b9
      go_wp2_with fail
      refine (HSz1.out w9 HO9.out).mono ?_
      rintro e w10 ⟨rfl, o10, b10⟩
      have HO10 : Hid (Off T w0 b key m w10) := o10
      have HK10 : Hid (Kept (fun k => ¬ T k) w w10) := HK9.out.then b10
      clear o10 b10
      go_wp2_with fail
      refine (HW1.out w10 HO10.out).mono ?_
      rintro e w11 ⟨rfl, o11, b11⟩
      have HO11 : Hid (Off T w0 b key m w11) := o11
      have HK11 : Hid (Kept (fun k => ¬ T k) w w11) := HK10.out.then b11
      clear o11 b11
      go_wp2_with fail
      go_ret
      exact ⟨rfl, ⟨m, HAt.out.1, by rw [HAt.out.2, HXH.out], HO11.out⟩, HK11.out⟩
    · have hw0 := hG.want
      obtain ⟨d, hd⟩ : ∃ d, d = min (c + 16) n := ⟨_, rfl⟩
      rw [if_neg (by omega), ← hd] at hw0
      have HW2 : Hid (∀ w9, Off T w0 b key m w9 → Calls Tryz.prog 82 #[.pointer (some ⟨b, 0, none⟩)] w9 fun e w' => e = .returned (.agg #[.int .i64 2, .int .i64 (c : Int), .int .i64 (d : Int)]) ∧ Off T w0 b key m w' ∧ Below w9.heap.size w9 w') := fun w9 o9 => by
        have h := WalkMiOff.want_off o9
        rw [hw0] at h
        exact h
      have fW := want_what 2 (c : Int) (d : Int)
      have i3 : (k : Int) < 30 := by omega
      have j0 : (0 : Int) ≤ (c : Int) := by omega
      have j1 : (c : Int) ≤ (d : Int) := by omega
      have j2 : (d : Int) ≤ (n : Int) := by omega
      have j3 : (d : Int) ≤ (cap : Int) := by omega
      have j4 : ¬ (c : Int) < 0 := by omega
      have j5 : ¬ (d : Int) < (c : Int) := by omega
      have j6 : ¬ (n : Int) < (d : Int) := by omega
      have j7 : ¬ cap = c := by omega
      have hlc : ((l.take d).drop c).length = d - c := by rw [List.length_drop, List.length_take]; omega
      have hp := Follows.hear_page hG (by omega) ⟨2, Heads.zero, (l.take d).drop c, []⟩ rfl (by rw [← hd])
      rw [← hd] at hp
      have HHr : Hid (∀ w11, Below wr.heap.size wr w11 → Calls Tryz.prog 81 #[.pointer (some ⟨b, 0, none⟩), .agg #[.int .i64 2, .int .i64 0, .int .i64 0, .int .i64 0, .int .i64 0, .slice (some ⟨ga, oa + c * 2, none⟩) (d - c) (cap - c), .slice none 0 0]] w11 fun e w' => e = .returned .nilIface ∧ (∃ m, On key l n (k + 1) m ∧ Off T w0 b key m w') ∧ Kept (fun k => ¬ T k) w w') := fun w11 b11 => by
        have hO := HOf.out.stays b11
        have h5 := EntCuts.cut (HL.out w11 (HK.out.then b11) hO.below) c d (by omega) (by omega)
        have hh := WalkMiOff.hear_off hO (HA.out w11 hO.below) ⟨2, Heads.zero, (l.take d).drop c, []⟩ ⟨by show ((l.take d).drop c).length ≤ _; omega, Nat.zero_le _, fun e he => HSz.out e (List.mem_of_mem_take (List.mem_of_mem_drop he))⟩ (some ⟨ga, oa + c * 2, none⟩) (cap - c) none 0 (by show Wide _ _ _ ((l.take d).drop c).length _ _; rw [hlc]; exact h5) (Row.nil _ _ _) (fun p _ hp => by simp only [Option.some.injEq] at hp; subst hp; exact HLt.out) (fun p h0 => by cases h0)
        unfold rv at hh
        simp only [hlc] at hh
        refine hh.mono ?_
        rintro e w' ⟨rfl, q1, q2⟩
        refine ⟨by rw [hp.1, errv0], ⟨_, ?_, q1⟩, (HK.out.then b11).trans q2 fun i hi => .inl hi⟩
        by_cases hf : d = n
        · exact .inl ⟨hp.2.1 ⟨rfl, hf⟩, FollowEnds.page_head hG (by omega) _ rfl (hp.2.1 ⟨rfl, hf⟩), by omega⟩
        · exact .inr ⟨d, hp.2.2 (fun q => hf q.2), by omega, by omega⟩
      have HK30 : Hid (k + 1 ≤ 30) := by show _ ≤ _; omega
      clear hw0 hd hkc hct hp hlc hG hOf HS
      go_wp2_with fail
      refine (HW2.out wr HOf.out).mono ?_
      rintro e w9 ⟨rfl, o9, b9⟩
      go_wp2_with fail
      refine (HW2.out w9 o9).mono ?_
      rintro e w10 ⟨rfl, o10, b10⟩
      have HB12 : Hid (∀ o1, Below wr.heap.size wr (w10.alloc o1)) := fun o1 => bt b9 (b10.alloc b10.size o1)
      clear o9 o10 b9 b10
      go_wp2_with fail
      refine (HHr.out _ (HB12.out _)).mono ?_
      rintro e w12 ⟨rfl, q1', q2'⟩
      have HS12 : Hid (∃ m, On key l n (k + 1) m ∧ Off T w0 b key m w12) := q1'
      have HK12 : Hid (Kept (fun k => ¬ T k) w w12) := q2'
      clear HHr HB12 q1' q2'
      go_wp2_with fail
      go_roundw
      case rel => exact ⟨k + 1, HK30.out, by go_num, HS12, HK12⟩
      case measure => have := HK30.out; simp [intOf]; omega

theorem hear_nil (key : Int) (H : Head) (hs : H.size = 0) : (hearE key Mirrors.start ⟨1, H, [], []⟩ = Mirrors.headE key Mirrors.start H) ∧ At key [] 0 (hearM key Mirrors.start ⟨1, H, [], []⟩) := by
  have hw := (Follows.start_at key []).want
  have e1 : hearE key Mirrors.start ⟨1, H, [], []⟩ = Mirrors.headE key Mirrors.start H := by
    unfold Mirrors.hearE
    rw [hw]
    rfl
  have e2 : hearM key Mirrors.start ⟨1, H, [], []⟩ = Mirrors.headM key Mirrors.start H := by
    unfold Mirrors.hearM
    rw [hw]
    rfl
  refine ⟨e1, ?_⟩
  rw [e2]
  unfold Mirrors.headM
  split
  · rw [if_neg (by rw [hs]; decide)]
    split
    · exact ⟨rfl, rfl, rfl, Nat.zero_le _⟩
    · exact Follows.start_at key []
  · exact Follows.start_at key []

set_option maxHeartbeats 4000000 in
theorem follow_nil {T : Nat → Prop} {w0 w : World} {b : Nat} {key : Int} (hO : Off T w0 b key Mirrors.start w) (a : Option Addr) (cap : Nat) (H : Head) (hs : H.size = 0) (hA : ∀ w1, Below w0.heap.size w0 w1 → WalkMi.Asks w1) :
    Calls Tryz.prog 21 #[.pointer (some ⟨b, 0, none⟩), .slice a 0 cap, hv H] w fun e w' => e = .returned (.bool (decide (Mirrors.headE key Mirrors.start H = 0))) ∧ (∃ m, At key [] 0 m ∧ Off T w0 b key m w') ∧ Kept (fun k => ¬ T k) w w' := by
  have HA : Hid (∀ w1, Below w0.heap.size w0 w1 → WalkMi.Asks w1) := hA
  have HHr : Hid (∀ w7, Below w.heap.size w w7 → Calls Tryz.prog 81 #[.pointer (some ⟨b, 0, none⟩), rv ⟨1, H, [], []⟩ none 0 none 0] w7 fun e w' => e = .returned (errv (Mirrors.headE key Mirrors.start H)) ∧ (∃ m, At key [] 0 m ∧ Off T w0 b key m w') ∧ Kept (fun k => ¬ T k) w w') := fun w7 b7 => by
    have hO7 := hO.stays b7
    obtain ⟨n1, n2⟩ := hear_nil key H hs
    refine (WalkMiOff.hear_off hO7 (HA.out w7 hO7.below) ⟨1, H, [], []⟩ ⟨Nat.zero_le _, Nat.zero_le _, fun e he => by cases he⟩ none 0 none 0 (Wide.nil _ _ _ _) (Row.nil _ _ _) (fun p h0 => by cases h0) (fun p h0 => by cases h0)).mono ?_
    rintro e w' ⟨rfl, q1, q2⟩
    exact ⟨by rw [n1], ⟨_, n2, q1⟩, (Kept.of_below _ b7).trans q2 fun i hi => .inl hi⟩
  generalize Mirrors.headE key Mirrors.start H = E at HHr ⊢
  obtain ⟨x1, x2, x3, x4⟩ := H
  have aR := aggR
  have zR := sizeR
  have aW := aggW
  have zW := sizeW
  have aH := aggH
  have zH := sizeH
  have fW1 := want_what 1 0 0
  unfold rv at HHr
  unfold hv
  simp only [List.length_nil] at HHr ⊢
  clear hO hA hs
  go_enter Tryz.func21, Tryz.ntmps21
  go_wp2_with fail
  refine (HHr.out _ ((Below.refl _ _).alloc (Nat.le_refl _) _)).mono ?_
  rintro e w8 ⟨rfl, ⟨m, hAt, hOf⟩, q2⟩
  have HK : Hid (Kept (fun k => ¬ T k) w w8) := q2
  have HAt : Hid (At key [] 0 m) := hAt
  have HOf : Hid (Off T w0 b key m w8) := hOf
  have HW1 : Hid (∀ w9, Off T w0 b key m w9 → Calls Tryz.prog 82 #[.pointer (some ⟨b, 0, none⟩)] w9 fun e w' => e = .returned (.agg #[.int .i64 1, .int .i64 0, .int .i64 0]) ∧ Off T w0 b key m w' ∧ Below w9.heap.size w9 w') := fun w9 o9 => by
    have h := WalkMiOff.want_off o9
    rw [hAt.want] at h
    exact h
  have HSz1 : Hid (∀ w9, Off T w0 b key m w9 → Calls Tryz.prog 83 #[.pointer (some ⟨b, 0, none⟩)] w9 fun e w' => e = .returned (.int .i64 0) ∧ Off T w0 b key m w' ∧ Below w9.heap.size w9 w') := fun w9 o9 => by
    have h := WalkMiOff.size_off o9
    rw [hAt.size] at h
    exact h
  clear hAt hOf q2 HHr
  by_cases hE : E = 0
  rotate_left
  · have HD : Hid (decide (E = 0) = false) := decide_eq_false hE
    rw [errv_pos _ hE]
    clear hE
    go_wp2_with fail
    go_ret
    exact ⟨by rw [HD.out]; rfl, ⟨m, HAt.out, HOf.out⟩, HK.out⟩
  have HD : Hid (decide (E = 0) = true) := decide_eq_true hE
  rw [hE, errv0]
  clear hE
  go_upto_region 4 with fail
  go_loopw [7] (fun kv wi => kv = .int .i64 0 ∧ wi = w8) (fun _ _ => 0)
  case atStart => exact ⟨rfl, rfl⟩
  case round =>
    obtain ⟨rfl, rfl⟩ := hrel
    go_wp2_with fail
    refine (HW1.out _ HOf.out).mono ?_
    rintro e w9 ⟨rfl, o9, b9⟩
    have HO9 : Hid (Off T w0 b key m w9) := o9
    have HK9 : Hid (Kept (fun k => ¬ T k) w w9) := HK.out.then b9
    clear o9 b9
    go_wp2_with fail
    refine (HSz1.out w9 HO9.out).mono ?_
    rintro e w10 ⟨rfl, o10, b10⟩
    have HO10 : Hid (Off T w0 b key m w10) := o10
    have HK10 : Hid (Kept (fun k => ¬ T k) w w10) := HK9.out.then b10
    clear o10 b10
    go_wp2_with fail
    refine (HW1.out w10 HO10.out).mono ?_
    rintro e w11 ⟨rfl, o11, b11⟩
    have HO11 : Hid (Off T w0 b key m w11) := o11
    have HK11 : Hid (Kept (fun k => ¬ T k) w w11) := HK10.out.then b11
    clear o11 b11
    go_wp2_with fail
    go_ret
    exact ⟨by rw [HD.out]; rfl, ⟨m, HAt.out, HO11.out⟩, HK11.out⟩

end Go.Proofs.YticadkggaanbjaaGreatDoor.WalkFollowOf
