/-
  The walk of MirrorComes: from a log that tells the truth all comes.
-/
import Derived.Test.YtjacioplocmciagDoorSePlain
import Derived.Test.YtjacioplocmciagDoorWalkMiOff
import Derived.Test.YtjacioplocmciagDoorWalkSe
import Derived.Test.YtjacioplocmciagDoorEntCuts
import Derived.Test.YtjacioplocmciagDoorEntAll
import Derived.Test.YtjacioplocmciagDoorWalkGrowMake
import Derived.Test.YtjacioplocmciagDoorWalkEntsSame
import Derived.Deep.RegionHeld3
import Derived.Deep.CutBlock
namespace Go.Proofs.YtjacioplocmciagDoor.WalkMirrorComes
open Go.RowKit
open Lists (bt Row ints)
open Keeps (Kept owns_kept)
open Wides (Wide owns_wide)
open Entries (Entry entE entsE leafsOf leafsV)
open EntRows (cells)
open Errs (errv errv0 errv_pos)
open Heads (isKey Head)
open Mirrors (Mir Reply Ok hearE hearM)
open ReplyRows (RFine)
open MirVals (rv wv aggR sizeR aggW sizeW)
open HeadVals (hv aggH sizeH)
open WalkMiOff (Off)
open Answers (logE logH)
open Follows (Goes At)

theorem want_what (x y z : Int) (w : World) : (Instr.field 30 (.agg #[.int .i64 x, .int .i64 y, .int .i64 z]) 0).run Tryd.prog w = .ok (.int .i64 x) w := by kernel_rfl
theorem key_not {key : Int} (h : isKey key = false) : key < 1 ∨ 1000000 < key := by
  unfold isKey at h
  simp at h
  omega
/-- on its way: k pages behind it at most -/
def On (key : Int) (l : List Entry) (o t k : Nat) (m : Mir) : Prop := (At key l t m ∧ k ≤ 20) ∨ ∃ c, Goes key 0 l o t c m ∧ (c < t → 16 * k ≤ c - o) ∧ 16 * k ≤ c - o + 15

set_option maxHeartbeats 16000000 in
set_option maxRecDepth 100000 in
theorem walk (key : Int) (_ : (Lit.int .i64 key).wf = true) (a : Option Addr) (n cap : Nat) (l : List Entry) (_ : l.length * 24 ≤ 140737488351232) (hw : ∀ x ∈ l, (Lit.int .i64 x.1).wf = true ∧ x.2.size ≤ maxLen)
    (a2 : Option Addr) (n2 cap2 : Nat) (l2 : List Int) (_ : l2.length * 8 ≤ 140737488351232) (_ : ∀ x ∈ l2, (Lit.int .i64 x).wf = true) (w : World) (r : Wide 2 w a n cap (cells l)) (r2 : Row w a2 n2 cap2 (ints l2)) (hK : WalkHdLib.Tabs w) :
    Calls Tryd.prog 3 #[.int .i64 key, .slice a n cap, .slice a2 n2 cap2] w fun e w' => e = .returned (.bool true) ∧ Below w.heap.size w w' := by
  have hP : WalkMi.Asks w := hK
  have hQ : WalkSe.Asks w := hK
  have HA : Hid (∀ w1, Below w.heap.size w w1 → WalkMi.Asks w1) := fun w1 h => hP.below h
  have HQ : Hid (∀ w1, Below w.heap.size w w1 → WalkSe.Asks w1) := fun w1 h => hQ.below h
  have HL : Hid (∀ w1, Below w.heap.size w w1 → Wide 2 w1 a n cap (cells l)) := fun w1 h => r.below h
  have HR2 : Hid (∀ w1, Below w.heap.size w w1 → Row w1 a2 n2 cap2 (ints l2)) := fun w1 h => r2.below h
  have HSz : Hid (∀ e ∈ l, e.2.size ≤ maxLen) := fun e he => (hw e he).2
  have hln := EntRows.len_of r
  have hl2 : l2.length = n2 := by rw [← r2.1, Lists.ints_length]
  have HLt : Hid (∀ p, 0 < n → a = some p → p.block < w.heap.size) := fun p h0 hp => by
    obtain ⟨b', off', ha, hc⟩ := r.2.2 h0
    rw [hp] at ha
    obtain rfl : p = ⟨b', off', none⟩ := by simpa using ha
    exact Lists.block_lt (hc 0 _ (List.getElem?_eq_getElem (by rw [EntRows.cells_length]; omega)))
  have hcap := r.2.1
  have aR := aggR
  have zR := sizeR
  have aW := aggW
  have zW := sizeW
  have aH := aggH
  have zH := sizeH
  have fW1 := want_what 1 0 0
  have hk7 : isKey 7 = true := by decide
  have cN := WalkMi.new_any 7 w w.heap.size (Nat.le_refl _) (HA.out w (Below.refl _ _))
  rw [if_pos hk7, errv0] at cN
  clear hK hP hQ r r2 hw
  go_enter Tryd.func3, Tryd.ntmps3
  go_wp2_with fail
  refine cN.mono ?_
  rintro e w1 ⟨v, rfl, hv, b1⟩
  obtain ⟨b0, F0, rfl, hmi, _⟩ := hv hk7
  have HO : Hid (Off (fun _ => False) w b0 7 Mirrors.start w1) := ⟨⟨F0, hmi, fun _ q => q.elim⟩, fun _ q => q.elim, b1, Mirrors.start_ok 7⟩
  clear cN hv hmi b1
  have cW := WalkMiOff.want_off HO.out
  rw [(Follows.start_at 7 l).want] at cW
  unfold wv at cW
  simp only at cW
  go_wp2_with fail
  refine cW.mono ?_
  rintro e w2 ⟨rfl, o2, _⟩
  have cS := WalkMiOff.size_off o2
  rw [(Follows.start_at 7 l).size] at cS
  clear cW HO
  go_wp2_with fail
  refine cS.mono ?_
  rintro e w3 ⟨rfl, o3, _⟩
  have HB3 : Hid (Below w.heap.size w w3) := o3.below
  have cN := WalkMi.new_any key w3 w.heap.size HB3.out.size (HA.out w3 HB3.out)
  clear cS o2 o3
  go_upto_region 4 with fail
  cases hk : isKey key with
  | false =>
    have hkn := key_not hk
    rw [hk, if_neg (by decide), errv_pos 1 (by decide)] at cN
    go_wp2_with fail
    refine cN.mono ?_
    rintro e w4 ⟨v4, rfl, _, b4⟩
    have HB4 : Hid (Below w.heap.size w w4) := bt HB3.out b4
    clear cN b4
    by_cases h1 : key < 1
    · go_wp2_with fail
      go_ret
      exact ⟨rfl, HB4.out⟩
    · have h2 : 1000000 < key := by omega
      clear hkn
      go_wp2_with fail
      go_ret
      exact ⟨rfl, HB4.out⟩
  | true =>
    rw [hk, if_pos rfl, errv0] at cN
    go_wp2_with fail
    refine cN.mono ?_
    rintro e w4 ⟨v4, rfl, hv, b4⟩
    obtain ⟨b, F, rfl, hmi, _⟩ := by first | exact hv rfl | exact hv trivial
    have HO : Hid (∃ m, At key l 0 m ∧ Off (fun _ => False) w b key m w4) := ⟨_, Follows.start_at key l, ⟨⟨F, hmi, fun _ q => q.elim⟩, fun _ q => q.elim, bt HB3.out b4, Mirrors.start_ok key⟩⟩
    clear cN hv hmi b4
    go_upto_region 9 with fail
    go_loopw [6, 11, 12, 13, 14, 15, 16, 17, 18, 19, 20, 21] (fun _ av iv _ _ _ _ _ _ _ _ _ wr => ∃ (i o : Nat), i ≤ 12 ∧ i ≤ n2 ∧ o ≤ 200 ∧ iv = .int .i64 (i : Int) ∧ av = .int .i64 (o : Int) ∧ Hid (∃ m, At key l o m ∧ Off (fun _ => False) w b key m wr)) (fun _ _ iv _ _ _ _ _ _ _ _ _ _ => 12 - (intOf iv).toNat)
    case atStart => exact ⟨0, 0, by omega, Nat.zero_le _, by omega, rfl, rfl, HO⟩
    case round =>
      clear HO HB3
      obtain ⟨i, o, hi, hin, ho2, rfl, rfl, HO⟩ := hrel
      by_cases hgo : ¬ (i < n2 ∧ i < 12)
      · obtain ⟨m, hAt, hOf⟩ := HO.out
        have cS := WalkMiOff.size_off hOf
        rw [hAt.size] at cS
        clear hAt hOf HO
        by_cases h1 : i < n2
        · have i1 : (i : Int) < (n2 : Int) := by omega
          have i2 : ¬ (i : Int) < 12 := by omega
          clear hgo
          go_wp2_with fail
          refine cS.mono ?_
          rintro e w5 ⟨rfl, o5, _⟩
          have HB5 := o5.below
          clear cS o5
          go_wp2_with fail
          go_ret
          exact ⟨rfl, HB5⟩
        · have i1 : ¬ (i : Int) < (n2 : Int) := by omega
          clear hgo
          go_wp2_with fail
          refine cS.mono ?_
          rintro e w5 ⟨rfl, o5, _⟩
          have HB5 := o5.below
          clear cS o5
          go_wp2_with fail
          go_ret
          exact ⟨rfl, HB5⟩
      have hgo : i < n2 ∧ i < 12 := Decidable.not_not.1 hgo
      have i1 : (i : Int) < (n2 : Int) := by omega
      have i2 : (i : Int) < 12 := by omega
      obtain ⟨z, hz⟩ : ∃ z, l2[i]? = some z := ⟨l2[i]'(by omega), List.getElem?_eq_getElem _⟩
      obtain ⟨g2, off2, rfl, _⟩ := (HR2.out w (Below.refl _ _)).2.2 (by omega)
      have HCz : Hid (∀ w1, Below w.heap.size w w1 → w1.cell? ⟨g2, off2 + i, none⟩ = some (.int .i64 z)) := fun w1 b1 => (HR2.out w1 b1).at i _ (by rw [Lists.ints, List.getElem?_map, hz]; rfl)
      have cz := HCz.out wr (by obtain ⟨m, _, hOf⟩ := HO.out; exact hOf.below)
      have HG : Hid (i + 1 ≤ 12 ∧ i + 1 ≤ n2) := by show _ ∧ _; omega
      clear hz
      by_cases hz1 : z < (o : Int)
      · go_wp2_with fail
        go_roundw
        case rel => exact ⟨i + 1, o, HG.out.1, HG.out.2, ho2, by go_num, rfl, HO⟩
        case measure => have := HG.out; simp [intOf]; omega
      by_cases hz2 : (n : Int) < z
      · go_wp2_with fail
        go_roundw
        case rel => exact ⟨i + 1, o, HG.out.1, HG.out.2, ho2, by go_num, rfl, HO⟩
        case measure => have := HG.out; simp [intOf]; omega
      by_cases hz3 : 200 < z
      · go_wp2_with fail
        go_roundw
        case rel => exact ⟨i + 1, o, HG.out.1, HG.out.2, ho2, by go_num, rfl, HO⟩
        case measure => have := HG.out; simp [intOf]; omega
      obtain ⟨t, rfl⟩ := Int.eq_ofNat_of_zero_le (show 0 ≤ z by omega)
      have hot : o ≤ t := by omega
      have htn : t ≤ n := by omega
      have ht2 : t ≤ 200 := by omega
      have HLk : Hid (∀ w1, Below w.heap.size w w1 → Wide 2 w1 a t cap (cells (l.take t))) := fun w1 b1 => EntCuts.first (HL.out w1 b1) t htn
      have HSk : Hid (∀ e ∈ l.take t, e.2.size ≤ maxLen) := fun e he => HSz.out e (List.mem_of_mem_take he)
      have q1 : (0 : Int) ≤ (t : Int) := by omega
      have q2 : (t : Int) ≤ (n : Int) := by omega
      have q3 : (t : Int) ≤ (cap : Int) := by omega
      have HW0 : Hid (Below w.heap.size w wr) := by obtain ⟨m, _, hOf⟩ := HO.out; exact hOf.below
      have cH := WalkSe.head_any (l.take t) a t cap key 0 wr (HLk.out wr HW0.out) HSk.out (HQ.out wr HW0.out)
      by_cases hE : logE (l.take t) key 0 = 0
      rotate_left
      · rw [errv_pos _ hE] at cH
        generalize logE (l.take t) key 0 = E at cH
        generalize logH (l.take t) key 0 = H at cH
        obtain ⟨x1, x2, x3, x4⟩ := H
        unfold hv at cH
        simp only at cH
        clear hE
        go_wp2_with fail
        refine cH.mono ?_
        rintro e w5 ⟨rfl, b5⟩
        have HB5 : Hid (Below w.heap.size w (w5.alloc (.cells #[.int .i64 x1, .int .i64 x2, .int .i64 x3, .int .i64 x4] 34))) := bt HW0.out (b5.alloc b5.size _)
        clear cH b5
        go_wp2_with fail
        go_ret
        exact ⟨rfl, HB5.out⟩
      rw [hE, errv0] at cH
      have HEn : Hid (entsE (l.take t) = 0) := (Answers.log_ok hE).1
      have HLog : Hid (logE (l.take t) key 0 = 0) := hE
      have HHead : Hid (∀ m, At key l o m → hearE key m ⟨1, logH (l.take t) key 0, [], []⟩ = 0 ∧ On key l o t 0 (hearM key m ⟨1, logH (l.take t) key 0, [], []⟩)) := fun m hAt => by
        have hh := Follows.hear_head hAt hot (by omega) HLog.out
        refine ⟨hh.1, ?_⟩
        by_cases e : o = t
        · exact .inl ⟨hh.2.2 e, by omega⟩
        · exact .inr ⟨o, hh.2.1 (by omega), by omega, by omega⟩
      generalize logH (l.take t) key 0 = H at cH HHead
      obtain ⟨x1, x2, x3, x4⟩ := H
      unfold hv at cH
      simp only at cH
      clear hE
      go_wp2_with fail
      refine cH.mono ?_
      rintro e w5 ⟨rfl, b5⟩
      have HB5 : Hid (Below wr.heap.size wr (w5.alloc (.cells #[.int .i64 x1, .int .i64 x2, .int .i64 x3, .int .i64 x4] 34))) := b5.alloc b5.size _
      clear cH b5 cz
      go_upto_region 16 with fail
      have hh5 : (w5.alloc (.cells #[.int .i64 x1, .int .i64 x2, .int .i64 x3, .int .i64 x4] 34)).rowIs w5.heap.size 34 4 (fun j => if j = 0 then .int .i64 x1 else if j = 1 then .int .i64 x2 else if j = 2 then .int .i64 x3 else .int .i64 x4) := World.rowIs_alloc _ _ _ _ (fun j hj => by match j, hj with | 0, _ | 1, _ | 2, _ | 3, _ => rfl | j + 4, h => simp at h; omega)
      generalize w5.alloc (.cells #[.int .i64 x1, .int .i64 x2, .int .i64 x3, .int .i64 x4] 34) = w6 at HB5 hh5 ⊢
      generalize w5.heap.size = gh at hh5 ⊢
      have HHd : Hid (w6.rowIs gh 34 4 (fun j => if j = 0 then .int .i64 x1 else if j = 1 then .int .i64 x2 else if j = 2 then .int .i64 x3 else .int .i64 x4)) := hh5
      have cL := WalkEnt.leafs_any (l.take t) a t cap w6 (HLk.out w6 (bt HW0.out HB5.out)) HSk.out
      rw [HEn.out, errv0] at cL
      clear hh5
      go_wp2_with fail
      refine cL.mono ?_
      rintro e w7 ⟨v7, rfl, o7, b7⟩
      obtain ⟨e7, e8⟩ := GrowRight.leafs_is HEn.out
      have hlt7 : (l.take t).length = t := by rw [List.length_take]; omega
      rw [e8, hlt7, e7] at o7
      obtain ⟨a7, c7, rfl, _⟩ := Keeps.owns_row o7
      obtain ⟨T, HTe⟩ : ∃ T : Nat → Prop, Hid (∀ k, T k ↔ (Value.slice a7 t c7).ownBlock = some k) := ⟨fun k => (Value.slice a7 t c7).ownBlock = some k, fun _ => Iff.rfl⟩
      have HLe : Hid (∀ w8, Kept (fun k => ¬ T k) w7 w8 → Row w8 a7 t c7 (ints (leafsOf (l.take t)))) := fun w8 k8 => by
        have h := owns_kept o7 k8 fun i hi q => q ((HTe.out i).2 hi)
        exact (Row.of_owns h).2
      have b57 : Below wr.heap.size wr w7 := bt HB5.out b7
      have HHr : Hid (Calls Tryd.prog 9 #[.pointer (some ⟨b, 0, none⟩), .agg #[.int .i64 1, .int .i64 x1, .int .i64 x2, .int .i64 x3, .int .i64 x4, .slice none 0 0, .slice none 0 0]] w7 fun e w' => e = .returned .nilIface ∧ (∃ m, On key l o t 0 m ∧ Off T w b key m w') ∧ Kept (fun k => ¬ T k) w7 w') := by
        obtain ⟨m, hAt, hOf⟩ := HO.out
        obtain ⟨h1, h2⟩ := HHead.out m hAt
        have hO7 : Off T w b key m w7 := hOf.more b57 fun i hi => .inr (by
          have := o7.lt i ((HTe.out i).1 hi)
          have := HB5.out.size
          omega)
        refine (WalkMiOff.hear_off hO7 (HA.out w7 hO7.below) ⟨1, ⟨x1, x2, x3, x4⟩, [], []⟩ ⟨Nat.zero_le _, Nat.zero_le _, fun e he => by cases he⟩ none 0 none 0 (Wide.nil _ _ _ _) (Row.nil _ _ _) (fun p h0 => by cases h0) (fun p h0 => by cases h0)).mono ?_
        rintro e w' ⟨rfl, q1, q2⟩
        exact ⟨by rw [h1, errv0], ⟨_, h2, q1⟩, q2⟩
      have HHd7 := HHd.out.of_block (b7.block _ HHd.out.lt)
      have s0 : w7.cell? ⟨gh, 0, none⟩ = some (.int .i64 x1) := HHd7.cell (i := 0) (by omega)
      have s1 : w7.cell? ⟨gh, 1, none⟩ = some (.int .i64 x2) := HHd7.cell (i := 1) (by omega)
      have s2 : w7.cell? ⟨gh, 2, none⟩ = some (.int .i64 x3) := HHd7.cell (i := 2) (by omega)
      have s3 : w7.cell? ⟨gh, 3, none⟩ = some (.int .i64 x4) := HHd7.cell (i := 3) (by omega)
      have HB7 : Hid (Below w.heap.size w w7) := bt HW0.out b57
      clear cL o7 b7 b57 e7 e8 HHd HHd7 HB5 HO HHead HW0
      go_wp2_with fail
      refine HHr.out.mono ?_
      rintro e w8 ⟨rfl, q1, q2⟩
      have HS : Hid (∃ m, On key l o t 0 m ∧ Off T w b key m w8) := q1
      have HK : Hid (Kept (fun k => ¬ T k) w7 w8) := q2
      clear HHr q1 q2 s0 s1 s2 s3
      go_upto_region 22 with fail
      go_loopw [6, 16, 17, 18, 19, 20] (fun _ kv _ _ _ _ wi => ∃ k : Nat, k ≤ 30 ∧ kv = .int .i64 (k : Int) ∧ Hid (∃ m, On key l o t k m ∧ Off T w b key m wi) ∧ Hid (Kept (fun k => ¬ T k) w7 wi)) (fun _ kv _ _ _ _ _ => 30 - (intOf kv).toNat)
      case atStart => exact ⟨0, by omega, rfl, HS, HK⟩
      case round =>
        clear HS HK
        obtain ⟨k, hk30, rfl, HS, HK⟩ := hrel
        obtain ⟨m, hOn, hOf⟩ := HS.out
        have HOf : Hid (Off T w b key m wr) := hOf
        have cW := WalkMiOff.want_off hOf
        rcases hOn with ⟨hAt, hk20⟩ | ⟨c, hG, hkc1, hkc⟩
        · rw [hAt.want] at cW
          unfold wv at cW
          simp only at cW
          have i3 : (k : Int) < 30 := by omega
          have HAt : Hid (At key l t m) := hAt
          have HW1 : Hid (∀ w9, Off T w b key m w9 → Calls Tryd.prog 5 #[.pointer (some ⟨b, 0, none⟩)] w9 fun e w' => e = .returned (.agg #[.int .i64 1, .int .i64 0, .int .i64 0]) ∧ Off T w b key m w' ∧ Below w9.heap.size w9 w') := fun w9 o9 => by
            have h := WalkMiOff.want_off o9
            rw [hAt.want] at h
            exact h
          have HEn2 : Hid (∀ w9, Off T w b key m w9 → Calls Tryd.prog 12 #[.pointer (some ⟨b, 0, none⟩)] w9 fun e w' => ∃ av cv, e = .returned (.slice av t cv) ∧ Wide 2 w' av t cv (cells (l.take t)) ∧ Off T w b key m w') := fun w9 o9 => by
            refine (WalkMiOff.entries_off o9).mono ?_
            rintro e w' ⟨v, rfl, ov, q1', _⟩
            rw [hAt.size, hAt.own] at ov
            obtain ⟨av, cv, rfl, hwv⟩ := owns_wide ov
            exact ⟨av, cv, rfl, hwv, q1'⟩
          have HSm : Hid (∀ w9 av cv, Off T w b key m w9 → Wide 2 w9 av t cv (cells (l.take t)) → Calls Tryd.prog 11 #[.slice av t cv, .slice a t cap] w9 fun e w' => e = .returned (.bool true) ∧ Off T w b key m w') := fun w9 av cv o9 h9 => by
            refine (WalkEntsSame.entries_same (l.take t) av a t cv cap w9 h9 (HLk.out w9 o9.below) (by omega)).mono ?_
            rintro e w' ⟨rfl, bb⟩
            exact ⟨rfl, o9.stays bb⟩
          clear hAt hOf HS
          go_wp2_with fail
          refine cW.mono ?_
          rintro e w9 ⟨rfl, o9, _⟩
          have HO9 : Hid (Off T w b key m w9) := o9
          clear cW o9
          go_upto_region 36 with fail
          go_region_held3 (fun _ => True) (exact trivial) (first | (go_at_call 12; refine (HEn2.out _ (HO9.out.stays (Below.refl _ w9).drew)).mono ?_; rintro e w10 ⟨av, cv, rfl, hwv, o10⟩; have HW10 : Hid (Wide 2 w10 av t cv (cells (l.take t))) := hwv; have HO10 : Hid (Off T w b key m w10) := o10; clear hwv o10) | (go_at_call 11; refine (HSm.out _ av cv HO10.out HW10.out).mono ?_; rintro e w11 ⟨rfl, o11⟩; have HO11 : Hid (Off T w b key m w11) := o11; clear o11))
          go_wp2_with fail
          refine (HW1.out _ HO11.out).mono ?_
          rintro e w12 ⟨rfl, o12, _⟩
          have HFin : Hid (∃ m, At key l t m ∧ Off (fun _ => False) w b key m w12) := ⟨m, HAt.out, o12.step (Kept.refl (fun _ => False) _) (fun _ q => q.elim) fun _ q => q.elim⟩
          clear HW1 HEn2 HSm o12 HO9 HO10 HO11 HW10 HK HOf
          go_wp2_with fail
          go_roundw
          case rel => exact ⟨i + 1, t, HG.out.1, HG.out.2, ht2, by go_num, rfl, HFin⟩
          case measure => have := HG.out; simp [intOf]; omega
        · have hoc := hG.oc
          have hct := hG.ct
          have hk13 : k ≤ 13 := by omega
          have i3 : (k : Int) < 30 := by omega
          have hw0 := hG.want
          by_cases hc : c = t
          · subst hc
            rw [if_pos rfl] at hw0
            have ho1 : 1 ≤ o := by have := hG.open_; have := hG.ot; omega
            have HW2 : Hid (∀ w9, Off T w b key m w9 → Calls Tryd.prog 5 #[.pointer (some ⟨b, 0, none⟩)] w9 fun e w' => e = .returned (.agg #[.int .i64 3, .int .i64 (o : Int), .int .i64 (c : Int)]) ∧ Off T w b key m w' ∧ Below w9.heap.size w9 w') := fun w9 o9 => by
              have h := WalkMiOff.want_off o9
              rw [hw0] at h
              exact h
            have fW := want_what 3 (o : Int) (c : Int)
            have j4 : ¬ (o : Int) < 0 := by omega
            have j5 : ¬ (c : Int) < (o : Int) := by omega
            have j6 : ¬ (c : Int) < (c : Int) := by omega
            have hlt8 : (leafsOf (l.take c)).length = c := by rw [Serves.leafs_len]; exact hlt7
            have hg0 := GrowRight.right (L := leafsOf (l.take c)) (m := o) hlt8 ht2 (GrowRight.leafs_valid _) ho1 hot
            have hgl : GrowsE.gmakeL (leafsOf (l.take c)) (o : Int) (c : Int) = Grows.grow (leafsOf (l.take c)) o true := by
              unfold GrowsE.gmakeL
              rw [if_pos hg0.1, Int.toNat_natCast, Int.toNat_natCast, List.take_of_length_le (by omega)]
            have hp := fun r h1 h2 => Follows.hear_proof (r := r) hG h1 h2
            have HMk : Hid (∀ w9, Kept (fun k => ¬ T k) w7 w9 → Calls Tryd.prog 10 #[.slice a7 c c7, .int .i64 (o : Int), .int .i64 (c : Int)] w9 fun e w' => ∃ ap cp, e = .returned (.tuple #[.slice ap (Grows.grow (leafsOf (l.take c)) o true).length cp, .nilIface]) ∧ w'.ownsRow w9.heap.size 3 1 (.slice ap (Grows.grow (leafsOf (l.take c)) o true).length cp) (Grows.grow (leafsOf (l.take c)) o true).length (ints (Grows.grow (leafsOf (l.take c)) o true)) ∧ Below w9.heap.size w9 w') := fun w9 k9 => by
              refine (WalkGrowMake.make_any (leafsOf (l.take c)) a7 c c7 (o : Int) (c : Int) w9 (HLe.out w9 k9)).mono ?_
              rintro e w' ⟨v, rfl, ov, bv⟩
              rw [hgl] at ov
              obtain ⟨ap, cp, rfl, _⟩ := Keeps.owns_row ov
              exact ⟨ap, cp, by rw [hg0.1]; rfl, ov, bv⟩
            have hgn : (Grows.grow (leafsOf (l.take c)) o true).length ≤ 201 := by rw [← hgl]; exact hg0.2.1
            have HHr : Hid (∀ (w11 w12 : World) (ap : Option Addr) (cp : Nat), Below wr.heap.size wr w11 → w12.ownsRow w11.heap.size 3 1 (.slice ap (Grows.grow (leafsOf (l.take c)) o true).length cp) (Grows.grow (leafsOf (l.take c)) o true).length (ints (Grows.grow (leafsOf (l.take c)) o true)) → Below w11.heap.size w11 w12 → ∀ w13, Kept (fun k => wr.heap.size ≤ k ∧ k < w11.heap.size) w12 w13 → Calls Tryd.prog 9 #[.pointer (some ⟨b, 0, none⟩), .agg #[.int .i64 3, .int .i64 0, .int .i64 0, .int .i64 0, .int .i64 0, .slice none 0 0, .slice ap (Grows.grow (leafsOf (l.take c)) o true).length cp]] w13 fun e w' => e = .returned .nilIface ∧ (∃ m, On key l o c (k + 1) m ∧ Off T w b key m w') ∧ Kept (fun k => ¬ T k) w7 w') := fun w11 w12 ap cp b11 ov b12 w13 k13 => by
              have k0 : Kept (fun k => wr.heap.size ≤ k ∧ k < w11.heap.size) wr w13 := (Kept.of_below _ (bt b11 b12)).trans k13 fun i hi => .inl hi
              have hO : Off (fun k => T k ∨ (Value.slice ap (Grows.grow (leafsOf (l.take c)) o true).length cp).ownBlock = some k) w b key m w13 := HOf.out.step k0 (fun i hi => .inr hi.1) fun i hi => by
                rcases hi with hi | hi
                · exact .inl hi
                · have h1 := ov.lt i hi
                  have h2 := b11.size
                  have h3 := k13.size
                  exact .inr ⟨by omega, by omega⟩
              have ov13 := owns_kept ov k13 fun i hi q => by have := (ov.lt i hi).1; omega
              have hr13 := (Row.of_owns ov13).2
              obtain ⟨z1, z2⟩ := hp ⟨3, Heads.zero, [], Grows.grow (leafsOf (l.take c)) o true⟩ rfl rfl
              refine (WalkMiOff.hear_off hO (HA.out w13 hO.below) ⟨3, Heads.zero, [], Grows.grow (leafsOf (l.take c)) o true⟩ ⟨Nat.zero_le _, by show (Grows.grow (leafsOf (l.take c)) o true).length ≤ _; omega, fun e he => by cases he⟩ none 0 ap cp (Wide.nil _ _ _ _) hr13 (fun p h0 => by cases h0) (fun p _ hp => .inr (.inr (by rw [hp]; rfl)))).mono ?_
              rintro e w' ⟨rfl, q1, q2⟩
              refine ⟨by rw [z1, errv0], ⟨_, .inl ⟨z2, by omega⟩, q1.step (Kept.refl (fun _ => False) _) (fun _ q => q.elim) fun i hi => .inl (.inl hi)⟩, ?_⟩
              have k7 : Kept (fun k => ¬ T k) w7 w13 := HK.out.trans k0 fun i hi => .inl fun hT => by have := (HOf.out.foot i hT).2; omega
              exact k7.trans q2 fun i hi => .inl fun hT => hi (.inl hT)
            have HK30 : Hid (k + 1 ≤ 30) := by show _ ≤ _; omega
            generalize (Grows.grow (leafsOf (l.take c)) o true).length = GL at HMk HHr
            clear hw0 cW hkc hkc1 hp hG hOf HS hg0 hgl hgn hlt8
            go_wp2_with fail
            refine (HW2.out wr HOf.out).mono ?_
            rintro e w9 ⟨rfl, o9, b9⟩
            go_wp2_with fail
            refine (HW2.out w9 o9).mono ?_
            rintro e w10 ⟨rfl, o10, b10⟩
            go_upto_region 30 with fail
            have hb11 : Below wr.heap.size wr ((w10.alloc (.cells #[.int .i64 3, .int .i64 (o : Int), .int .i64 (c : Int)] 30)).alloc (.cells #[.int .i64 3, .int .i64 0, .int .i64 0, .int .i64 0, .int .i64 0, .slice none 0 0, .slice none 0 0] 41)) := bt b9 ((b10.alloc b10.size _).alloc (by have := b10.size; simp; omega) _)
            have hwr : ((w10.alloc (.cells #[.int .i64 3, .int .i64 (o : Int), .int .i64 (c : Int)] 30)).alloc (.cells #[.int .i64 3, .int .i64 0, .int .i64 0, .int .i64 0, .int .i64 0, .slice none 0 0, .slice none 0 0] 41)).rowIs w10.heap.size 30 3 (fun j => if j = 0 then .int .i64 3 else if j = 1 then .int .i64 (o : Int) else .int .i64 (c : Int)) := (World.rowIs_alloc w10 _ _ _ (fun j hj => by match j, hj with | 0, _ | 1, _ | 2, _ => rfl | j + 3, h => simp at h; omega)).alloc _
            have hrr : ((w10.alloc (.cells #[.int .i64 3, .int .i64 (o : Int), .int .i64 (c : Int)] 30)).alloc (.cells #[.int .i64 3, .int .i64 0, .int .i64 0, .int .i64 0, .int .i64 0, .slice none 0 0, .slice none 0 0] 41)).rowIs (w10.alloc (.cells #[.int .i64 3, .int .i64 (o : Int), .int .i64 (c : Int)] 30)).heap.size 41 7 (MirVals.cell7 3 0 0 0 0 (.slice none 0 0) (.slice none 0 0)) := World.rowIs_alloc _ _ _ _ (fun j hj => by match j, hj with | 0, _ | 1, _ | 2, _ | 3, _ | 4, _ | 5, _ | 6, _ => rfl | j + 7, h => simp at h; omega)
            have hgr1 : wr.heap.size ≤ (w10.alloc (.cells #[.int .i64 3, .int .i64 (o : Int), .int .i64 (c : Int)] 30)).heap.size := by have := b9.size; have := b10.size; simp; omega
            have hgr2 : (w10.alloc (.cells #[.int .i64 3, .int .i64 (o : Int), .int .i64 (c : Int)] 30)).heap.size = w10.heap.size + 1 := by simp
            have hgr3 := hrr.lt
            simp only [hgr2] at hrr hgr1 hgr3
            generalize ((w10.alloc (.cells #[.int .i64 3, .int .i64 (o : Int), .int .i64 (c : Int)] 30)).alloc (.cells #[.int .i64 3, .int .i64 0, .int .i64 0, .int .i64 0, .int .i64 0, .slice none 0 0, .slice none 0 0] 41)) = w11 at hb11 hwr hrr hgr3 ⊢
            have HB11 : Hid (Below wr.heap.size wr w11) := hb11
            have HGr : Hid (wr.heap.size ≤ w10.heap.size + 1 ∧ w10.heap.size + 1 < w11.heap.size) := ⟨hgr1, hgr3⟩
            generalize hge : w10.heap.size + 1 = gr at *
            have HRr : Hid (w11.rowIs gr 41 7 (MirVals.cell7 3 0 0 0 0 (.slice none 0 0) (.slice none 0 0))) := hrr
            have y1 : w11.cell? ⟨w10.heap.size, 1, none⟩ = some (.int .i64 (o : Int)) := hwr.cell (i := 1) (by omega)
            have y2 : w11.cell? ⟨w10.heap.size, 2, none⟩ = some (.int .i64 (c : Int)) := hwr.cell (i := 2) (by omega)
            clear hb11 hwr hrr hgr1 hgr2 hgr3 o9 o10 b9 b10
            go_wp2_with fail
            refine (HMk.out w11 (HK.out.then HB11.out)).mono ?_
            rintro e w12 ⟨ap, cp, rfl, ov, bv⟩
            have HR12 : Hid (w12.rowIs gr 41 7 (MirVals.cell7 3 0 0 0 0 (.slice none 0 0) (.slice none 0 0))) := HRr.out.of_block (bv.block _ HRr.out.lt)
            have HC13 := HHr.out w11 w12 ap cp HB11.out ov bv (w12.setCell ⟨gr, 6, none⟩ (.slice ap GL cp)) ((Kept.refl _ w12).setCell (p := ⟨gr, 6, none⟩) (.inl HGr.out) _)
            have h13 := HR12.out.set 6 (.slice ap GL cp)
            have z0 : (w12.setCell ⟨gr, 6, none⟩ (.slice ap GL cp)).cell? ⟨gr, 0, none⟩ = some (.int .i64 3) := h13.cell (i := 0) (by omega)
            have z1 : (w12.setCell ⟨gr, 6, none⟩ (.slice ap GL cp)).cell? ⟨gr, 1, none⟩ = some (.int .i64 0) := h13.cell (i := 1) (by omega)
            have z2 : (w12.setCell ⟨gr, 6, none⟩ (.slice ap GL cp)).cell? ⟨gr, 2, none⟩ = some (.int .i64 0) := h13.cell (i := 2) (by omega)
            have z3 : (w12.setCell ⟨gr, 6, none⟩ (.slice ap GL cp)).cell? ⟨gr, 3, none⟩ = some (.int .i64 0) := h13.cell (i := 3) (by omega)
            have z4 : (w12.setCell ⟨gr, 6, none⟩ (.slice ap GL cp)).cell? ⟨gr, 4, none⟩ = some (.int .i64 0) := h13.cell (i := 4) (by omega)
            have z5 : (w12.setCell ⟨gr, 6, none⟩ (.slice ap GL cp)).cell? ⟨gr, 5, none⟩ = some (.slice none 0 0) := h13.cell (i := 5) (by omega)
            have z6 : (w12.setCell ⟨gr, 6, none⟩ (.slice ap GL cp)).cell? ⟨gr, 6, none⟩ = some (.slice ap GL cp) := h13.cell (i := 6) (by omega)
            have u6c : w12.cell? ⟨gr, 6, none⟩ = some (.slice none 0 0) := HR12.out.cell (i := 6) (by omega)
            have u6f := HR12.out.frozen 6
            clear HMk HHr ov bv h13 y1 y2 HRr HR12
            go_upto_region 34 with fail
            generalize w12.setCell ⟨gr, 6, none⟩ (.slice ap GL cp) = w13 at HC13 z0 z1 z2 z3 z4 z5 z6 ⊢
            clear u6c u6f
            go_wp2_with fail
            refine HC13.mono ?_
            rintro e w14 ⟨rfl, q1', q2'⟩
            have HS12 : Hid (∃ m, On key l o c (k + 1) m ∧ Off T w b key m w14) := q1'
            have HK12 : Hid (Kept (fun k => ¬ T k) w7 w14) := q2'
            clear HC13 q1' q2' z0 z1 z2 z3 z4 z5 z6
            go_wp2_with fail
            go_roundw
            case rel => exact ⟨k + 1, HK30.out, by go_num, HS12, HK12⟩
            case measure => have := HK30.out; simp [intOf]; omega
          · obtain ⟨d, hd⟩ : ∃ d, d = min (c + 16) t := ⟨_, rfl⟩
            rw [if_neg hc, ← hd] at hw0
            have HW2 : Hid (∀ w9, Off T w b key m w9 → Calls Tryd.prog 5 #[.pointer (some ⟨b, 0, none⟩)] w9 fun e w' => e = .returned (.agg #[.int .i64 2, .int .i64 (c : Int), .int .i64 (d : Int)]) ∧ Off T w b key m w' ∧ Below w9.heap.size w9 w') := fun w9 o9 => by
              have h := WalkMiOff.want_off o9
              rw [hw0] at h
              exact h
            have fW := want_what 2 (c : Int) (d : Int)
            have HD : Hid (d = min (c + 16) t ∧ c < d ∧ d ≤ t ∧ t ≤ n ∧ n ≤ cap) := by show _ ∧ _; omega
            have j1 : (c : Int) ≤ (d : Int) := by omega
            have j2 : (d : Int) ≤ (n : Int) := by omega
            have j3 : (d : Int) ≤ (cap : Int) := by omega
            have j4 : ¬ (c : Int) < 0 := by omega
            have j5 : ¬ (d : Int) < (c : Int) := by omega
            have j6 : ¬ (t : Int) < (d : Int) := by omega
            have j7 : ¬ cap = c := by omega
            obtain ⟨ga, oa, rfl, _⟩ := (HL.out w (Below.refl _ _)).2.2 (by omega)
            have hln : ((l.take d).drop c).length = d - c := by rw [List.length_drop, List.length_take]; omega
            have hp := Follows.hear_page hG hc ⟨2, Heads.zero, (l.take d).drop c, []⟩ rfl (by rw [← hd])
            rw [← hd] at hp
            have HHr : Hid (∀ w11, Below wr.heap.size wr w11 → Calls Tryd.prog 9 #[.pointer (some ⟨b, 0, none⟩), .agg #[.int .i64 2, .int .i64 0, .int .i64 0, .int .i64 0, .int .i64 0, .slice (some ⟨ga, oa + c * 2, none⟩) (d - c) (cap - c), .slice none 0 0]] w11 fun e w' => e = .returned .nilIface ∧ (∃ m, On key l o t (k + 1) m ∧ Off T w b key m w') ∧ Kept (fun k => ¬ T k) w7 w') := fun w11 b11 => by
              have hO := HOf.out.stays b11
              have h5 := EntCuts.cut (HL.out w11 hO.below) c d (by omega) (by omega)
              have hh := WalkMiOff.hear_off hO (HA.out w11 hO.below) ⟨2, Heads.zero, (l.take d).drop c, []⟩ ⟨by show ((l.take d).drop c).length ≤ _; omega, Nat.zero_le _, fun e he => HSz.out e (List.mem_of_mem_take (List.mem_of_mem_drop he))⟩ (some ⟨ga, oa + c * 2, none⟩) (cap - c) none 0 (by show Wide _ _ _ ((l.take d).drop c).length _ _; rw [hln]; exact h5) (Row.nil _ _ _) (fun p _ hp => by simp only [Option.some.injEq] at hp; subst hp; exact .inl (show ga < w.heap.size from HLt.out ⟨ga, oa, none⟩ (by omega) rfl)) (fun p h0 => by cases h0)
              unfold rv at hh
              simp only [hln] at hh
              refine hh.mono ?_
              rintro e w' ⟨rfl, q1, q2⟩
              refine ⟨by rw [hp.1, errv0], ⟨_, ?_, q1⟩, (HK.out.then b11).trans q2 fun i hi => .inl hi⟩
              by_cases hf : o = 0 ∧ d = t
              · exact .inl ⟨hp.2.1 hf, by omega⟩
              · exact .inr ⟨d, hp.2.2 hf, by omega, by omega⟩
            have HK30 : Hid (k + 1 ≤ 30) := by show _ ≤ _; omega
            clear hw0 cW hd hkc hkc1 hp hln hG hOf HS
            go_wp2_with fail
            refine (HW2.out wr HOf.out).mono ?_
            rintro e w9 ⟨rfl, o9, b9⟩
            go_wp2_with fail
            refine (HW2.out w9 o9).mono ?_
            rintro e w10 ⟨rfl, o10, b10⟩
            have HB12 : Hid (∀ o1 o2, Below wr.heap.size wr ((w10.alloc o1).alloc o2)) := fun o1 o2 => bt b9 ((b10.alloc b10.size o1).alloc (by have := b10.size; simp; omega) o2)
            clear o9 o10 b9 b10
            go_wp2_with fail
            refine (HHr.out _ (HB12.out _ _)).mono ?_
            rintro e w12 ⟨rfl, q1', q2'⟩
            have HS12 : Hid (∃ m, On key l o t (k + 1) m ∧ Off T w b key m w12) := q1'
            have HK12 : Hid (Kept (fun k => ¬ T k) w7 w12) := q2'
            clear HHr HB12 q1' q2'
            go_wp2_with fail
            go_roundw
            case rel => exact ⟨k + 1, HK30.out, by go_num, HS12, HK12⟩
            case measure => have := HK30.out; simp [intOf]; omega

end Go.Proofs.YtjacioplocmciagDoor.WalkMirrorComes
