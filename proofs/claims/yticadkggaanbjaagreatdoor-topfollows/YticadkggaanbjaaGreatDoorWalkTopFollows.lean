/-
  The walk of TopFollows: a mirror that has all of a log answers as the log does, is audited whole, and another mirror that follows it has all, too.
-/
import Derived.Test.YticadkggaanbjaaGreatDoorWalkFollowOf
import Derived.Test.YticadkggaanbjaaGreatDoorWalkEntsSame
import Derived.Test.YticadkggaanbjaaGreatDoorWalkTopOne
import Derived.Test.YticadkggaanbjaaGreatDoorWalkSe
import Derived.Test.YticadkggaanbjaaGreatDoorSeAll
import Derived.Test.YticadkggaanbjaaGreatDoorAuAll
import Derived.Lib.QuietBelow
import Derived.BigQuiet
import Derived.Deep.QuietTactic
import Derived.Deep.CutBlock
namespace Go.Proofs.YticadkggaanbjaaGreatDoor.WalkTopFollows
open Go.RowKit
open Lists (bt Row ints)
open Keeps (Kept owns_kept)
open Wides (Wide)
open Entries (Entry entsE)
open EntRows (cells)
open Errs (errv errv0 errv_pos)
open Heads (Head isKey)
open Mirrors (Mir Ok rootE)
open HeadVals (hv aggH sizeH At)
open WalkMiOff (Off)
open Answers (logE logH answer)

/-- a mirror that has l -/
structure Has (w0 w : World) (b : Nat) (key : Int) (l : List Entry) : Prop where
  ex : ∃ F m, WalkMi.Mi w w0.heap.size b F key m ∧ Ok key m ∧ m.own = l
theorem Has.below {w0 w w' : World} {b : Nat} {key : Int} {l : List Entry} (h : Has w0 w b key l) (k : Below w.heap.size w w') : Has w0 w' b key l := by
  obtain ⟨F, m, h1, h2, h3⟩ := h.ex
  exact ⟨⟨F, m, h1.kept (Kept.of_below (fun _ => False) k) (fun _ _ q => q), h2, h3⟩⟩
theorem Has.entries {w0 w : World} {b : Nat} {key : Int} {l : List Entry} (h : Has w0 w b key l) (n : Nat) (hn : l.length = n) : Calls Tryz.prog 22 #[.pointer (some ⟨b, 0, none⟩)] w fun e w' => ∃ a c, e = .returned (.slice a n c) ∧ Wide 2 w' a n c (cells l) ∧ Below w.heap.size w w' := by
  obtain ⟨F, m, h1, h2, h3⟩ := h.ex
  refine (WalkMi.entries_any h1 h2).mono ?_
  rintro e w' ⟨v, rfl, o, b'⟩
  rw [h3, hn] at o
  obtain ⟨a, c, rfl, r⟩ := Wides.owns_wide o
  exact ⟨a, c, rfl, r, b'⟩

/-- a mirror that begins follows a log of l, of some or of none, by its head -/
theorem follows {T : Nat → Prop} {w0 w : World} {b : Nat} {key : Int} (hO : Off T w0 b key Mirrors.start w) (l : List Entry) (a : Option Addr) (n cap : Nat) (hln : l.length = n) (hl : ∀ w1, Kept (fun k => ¬ T k) w w1 → Below w0.heap.size w0 w1 → Wide 2 w1 a n cap (cells l)) (hd0 : ∀ p, 0 < n → a = some p → p.block < w0.heap.size ∨ T p.block) (hz : ∀ e ∈ l, e.2.size ≤ maxLen) (hA : ∀ w1, Below w0.heap.size w0 w1 → WalkMi.Asks w1) (hE : logE l key 0 = 0) (H : Head) (hH : 0 < n → H = logH l key 0) (hH0 : n = 0 → H.size = 0) :
    Calls Tryz.prog 21 #[.pointer (some ⟨b, 0, none⟩), .slice a n cap, hv H] w fun e w' => ∃ r, e = .returned (.bool r) ∧ (H = logH l key 0 → r = true) ∧ (∃ m, m.own = l ∧ (0 < n → m.head = logH l key 0) ∧ (n = 0 → m.head.size = 0) ∧ Off T w0 b key m w') ∧ Kept (fun k => ¬ T k) w w' := by
  by_cases h0 : 0 < n
  · rw [hH h0]
    refine (WalkFollowOf.follow_of hO l a n cap hl (fun p hp => hd0 p h0 hp) hz hA h0 hE).mono ?_
    rintro e w' ⟨rfl, ⟨m, q1, q2, q3⟩, q4⟩
    exact ⟨true, rfl, fun _ => rfl, ⟨m, by rw [q1.own, List.take_of_length_le (by omega)], fun _ => q2, fun h => by omega, q3⟩, q4⟩
  · obtain rfl : n = 0 := by omega
    have hl0 : l = [] := List.length_eq_zero_iff.1 hln
    subst hl0
    refine (WalkFollowOf.follow_nil hO a cap H (hH0 rfl) hA).mono ?_
    rintro e w' ⟨rfl, ⟨m, q1, q3⟩, q4⟩
    have hown : m.own = [] := q1.own
    refine ⟨_, rfl, fun h => ?_, ⟨m, hown, fun h => absurd h h0, fun _ => ?_, q3⟩, q4⟩
    · rw [h]
      refine decide_eq_true ?_
      unfold Mirrors.headE
      rw [if_pos (Serves.log_verify hE), if_neg]
      rw [Serves.log_is hE]
      rintro (q | q)
      · simp at q
        exact absurd q (by decide)
      · exact q.2 rfl
    · rcases q3.ok.head with ⟨q, _⟩ | ⟨_, q, _⟩
      · rw [q]; rfl
      · rw [q, hown]; rfl

set_option maxHeartbeats 16000000 in
set_option maxRecDepth 100000 in
theorem walk (a : Option Addr) (n cap : Nat) (l : List Entry) (_ : l.length * 24 ≤ 140737488351232) (hw : ∀ x ∈ l, (Lit.int .i64 x.1).wf = true ∧ x.2.size ≤ maxLen)
    (key : Int) (_ : (Lit.int .i64 key).wf = true) (ask : ByteArray) (hs : ask.size ≤ 140737488351232) (w : World) (r : Wide 2 w a n cap (cells l)) (hK : WalkHdLib.Tabs w) (hY : WalkSeNum.Syn w) :
    Calls Tryz.prog 5 #[.slice a n cap, .int .i64 key, .string ask] w fun e w' => e = .returned (.bool true) ∧ Below w.heap.size w w' := by
  have hln := EntRows.len_of r
  have HT : Hid (∀ w', Below w.heap.size w w' → WalkHdLib.Tabs w') := fun w' b => hK.below b
  have HR : Hid (∀ w', Below w.heap.size w w' → Wide 2 w' a n cap (cells l)) := fun w' b => r.below b
  have HZ : Hid (∀ e ∈ l, e.2.size ≤ maxLen) := fun e he => (hw e he).2
  have HSy : Hid (∀ w', Below w.heap.size w w' → WalkSeNum.Syn w') := fun w' b => hY.below b
  have HLt : Hid (∀ p, 0 < n → a = some p → p.block < w.heap.size) := fun p hp0 hp => by
    obtain ⟨b', off', ha, hc⟩ := r.2.2 hp0
    rw [hp] at ha
    obtain rfl : p = ⟨b', off', none⟩ := by simpa using ha
    exact Lists.block_lt (hc 0 _ (List.getElem?_eq_getElem (by rw [EntRows.cells_length]; omega)))
  have aH := aggH
  have zH := sizeH
  clear hK hY r hw
  have HHl : Hid (∀ w', Below w.heap.size w w' → Calls Tryz.prog 11 #[.slice a n cap, .int .i64 key, .int .i64 0] w' fun e w'' => e = .returned (.tuple #[hv (logH l key 0), errv (logE l key 0)]) ∧ Below w'.heap.size w' w'') := fun w' b => WalkSe.head_any l a n cap key 0 w' (HR.out w' b) HZ.out (HT.out w' b)
  go_enter Tryz.func5, Tryz.ntmps5
  go_wp2_with fail
  refine (WalkTopOne.one_any w).mono ?_
  rintro e w1 ⟨rfl, b1⟩
  have HB1 : Hid (Below w.heap.size w w1) := b1
  clear b1
  have cN := WalkMi.new_any key w1 w.heap.size HB1.out.size (HT.out w1 HB1.out)
  cases hk : isKey key with
  | false =>
    rw [hk, if_neg (by decide), errv_pos 1 (by decide)] at cN
    go_wp2_with fail
    refine cN.mono ?_
    rintro e w2 ⟨v2, rfl, _, b2⟩
    have HB2 : Hid (Below w.heap.size w w2) := bt HB1.out b2
    clear cN b2
    go_wp2_with fail
    go_ret
    exact ⟨rfl, HB2.out⟩
  | true =>
    rw [hk, if_pos rfl, errv0] at cN
    go_wp2_with fail
    refine cN.mono ?_
    rintro e w2 ⟨v2, rfl, hv2, b2⟩
    obtain ⟨ba, FA, rfl, hma, _⟩ := by first | exact hv2 rfl | exact hv2 trivial
    have HB2 : Hid (Below w.heap.size w w2) := bt HB1.out b2
    have HMa : Hid (WalkMi.Mi w2 w.heap.size ba FA key Mirrors.start) := hma
    clear cN b2 hv2 hma
    by_cases h3 : 200 < n
    · have e3 : (200 : Int) < (n : Int) := by omega
      go_wp2_with fail
      go_ret
      exact ⟨rfl, HB2.out⟩
    have e3 : ¬ (200 : Int) < (n : Int) := by omega
    have cN := WalkMi.new_any key w2 w.heap.size HB2.out.size (HT.out w2 HB2.out)
    rw [hk, if_pos rfl, errv0] at cN
    go_wp2_with fail
    refine cN.mono ?_
    rintro e w3 ⟨v3, rfl, hv3, b3⟩
    obtain ⟨bb, FB, rfl, hmb, hfb⟩ := by first | exact hv3 rfl | exact hv3 trivial
    have HB3 : Hid (Below w.heap.size w w3) := bt HB2.out b3
    have HC3 : Hid (Below w2.heap.size w2 w3) := b3
    have HMb : Hid (WalkMi.Mi w3 w.heap.size bb FB key Mirrors.start ∧ ∀ k, FB k → w2.heap.size ≤ k) := ⟨hmb, hfb⟩
    clear cN b3 hv3 hmb hfb
    obtain ⟨EL, HEL⟩ : ∃ EL, Hid (errv (logE l key 0) = EL) := ⟨_, rfl⟩
    obtain ⟨XL, HXL⟩ : ∃ XL, Hid (logH l key 0 = XL) := ⟨_, rfl⟩
    rw [HEL.out, HXL.out] at HHl
    obtain ⟨x0, x1, x2, x3⟩ := XL
    unfold hv at HHl
    simp only at HHl
    go_wp2_with fail
    refine (HHl.out w3 HB3.out).mono ?_
    rintro e w5 ⟨rfl, b5⟩
    go_upto_region 11 with fail
    have HC6 : Hid (Below w3.heap.size w3 (w5.alloc (.cells #[.int .i64 x0, .int .i64 x1, .int .i64 x2, .int .i64 x3] 31))) := b5.alloc b5.size _
    have HA6 : Hid (At (w5.alloc (.cells #[.int .i64 x0, .int .i64 x1, .int .i64 x2, .int .i64 x3] 31)) w5.heap.size ⟨x0, x1, x2, x3⟩) := At.new w5 x0 x1 x2 x3
    have HG6 : Hid (w3.heap.size ≤ w5.heap.size ∧ w5.heap.size < (w5.alloc (.cells #[.int .i64 x0, .int .i64 x1, .int .i64 x2, .int .i64 x3] 31)).heap.size) := ⟨b5.size, by simp⟩
    generalize w5.alloc (.cells #[.int .i64 x0, .int .i64 x1, .int .i64 x2, .int .i64 x3] 31) = w6 at HC6 HA6 HG6 ⊢
    generalize w5.heap.size = gx at HA6 HG6 ⊢
    have HB6 : Hid (Below w.heap.size w w6) := bt HB3.out HC6.out
    clear b5 HHl
    by_cases hEl : logE l key 0 = 0
    rotate_left
    · have e5 : EL = .iface 99 (.int .i64 (logE l key 0 : Nat)) := by rw [← HEL.out]; exact errv_pos _ hEl
      clear hEl HEL
      subst e5
      go_wp2_with fail
      go_ret
      exact ⟨rfl, HB6.out⟩
    have e5 : EL = .nilIface := by rw [← HEL.out, hEl]; rfl
    subst e5
    have HLl : Hid (logE l key 0 = 0) := hEl
    have HKy : Hid (isKey key = true) := hk
    clear hEl HEL hk
    go_upto_region 13 with fail
    go_cut [66] from 48 to 65 (fun v we => v = .bool false ∧ Hid (Has w we ba key l ∧ Has w we bb key l ∧ At we gx ⟨x0, x1, x2, x3⟩ ∧ Below w.heap.size w we))
    case first => as_aux_lemma =>
      obtain ⟨T, HTe⟩ : ∃ T : Nat → Prop, Hid (∀ k, T k ↔ FB k ∨ k = gx) := ⟨fun k => FB k ∨ k = gx, fun _ => Iff.rfl⟩
      have HOa : Hid (Off T w ba key Mirrors.start w6) := by
        have hma := HMa.out
        refine ⟨⟨FA, hma.kept (Kept.of_below (fun _ => False) (bt HC3.out HC6.out)) (fun _ _ h => h), fun k hk1 hk2 => ?_⟩, fun k hk1 => ?_, HB6.out, Mirrors.start_ok key⟩
        · have q1 := (hma.foot k hk2).2
          have q2 := HC3.out.size
          rcases (HTe.out k).1 hk1 with q | q
          · have := HMb.out.2 k q
            omega
          · have := HG6.out.1
            omega
        · rcases (HTe.out k).1 hk1 with q | q
          · have h := HMb.out.1.foot k q
            have := HC6.out.size
            exact ⟨h.1, by omega⟩
          · have := HG6.out
            have := HB3.out.size
            exact ⟨by omega, by omega⟩
      have cFa := follows HOa.out l a n cap hln (fun w1 _ b => HR.out w1 b) (fun p h0 hp => .inl (HLt.out p h0 hp)) HZ.out HT.out HLl.out ⟨x0, x1, x2, x3⟩ (fun _ => HXL.out.symm) (fun h => by rw [← HXL.out, Serves.log_is HLl.out]; show (l.length : Int) = 0; omega)
      unfold hv at cFa
      simp only at cFa
      obtain ⟨p0, p1, p2, p3⟩ := HA6.out
      simp only at p0 p1 p2 p3
      go_wp2_with fail
      refine cFa.mono ?_
      rintro e w7 ⟨rr, rfl, hrr, ⟨ma, hown, hhd, hhd0, hOf⟩, k7⟩
      obtain rfl : rr = true := hrr HXL.out.symm
      have HOf7 : Hid (Off T w ba key ma w7) := hOf
      have HMb7 : Hid (WalkMi.Mi w7 w.heap.size bb FB key Mirrors.start) := (HMb.out.1.kept (Kept.of_below (fun _ => False) HC6.out) (fun _ _ h => h)).kept k7 fun i hi q => q ((HTe.out i).2 (.inl hi))
      have HA7 : Hid (At w7 gx ⟨x0, x1, x2, x3⟩) := by
        have hlt : gx < w6.heap.size := HG6.out.2
        have hns : ¬ ¬ T gx := fun q => q ((HTe.out gx).2 (.inr rfl))
        obtain ⟨z0, z1, z2, z3⟩ := HA6.out
        exact ⟨by rw [k7.cell hlt hns]; exact z0, by rw [k7.cell hlt hns]; exact z1, by rw [k7.cell hlt hns]; exact z2, by rw [k7.cell hlt hns]; exact z3⟩
      have HS7 : Hid (w6.heap.size ≤ w7.heap.size) := k7.size
      have HHd : Hid ((0 < n → ma.head = logH l key 0) ∧ (n = 0 → ma.head.size = 0) ∧ ma.own = l) := ⟨hhd, hhd0, hown⟩
      have cEa := WalkMiOff.entries_off hOf
      rw [hown, hln] at cEa
      clear cFa p0 p1 p2 p3 hrr hown hhd hhd0 hOf k7 HOa
      go_wp2_with fail
      refine cEa.mono ?_
      rintro e w8 ⟨v8, rfl, o8, f8, b8⟩
      obtain ⟨a8, c8, rfl, _⟩ := Wides.owns_wide o8
      have HC8 : Hid (Below w7.heap.size w7 w8) := b8
      have HO8 : Hid (w8.ownsRow w7.heap.size 38 2 (.slice a8 n c8) n (cells l)) := o8
      have cHa := WalkMiOff.head_off f8
      obtain ⟨Y, HYe⟩ : ∃ Y, Hid (ma.head = Y) := ⟨_, rfl⟩
      rw [HYe.out] at cHa
      obtain ⟨y0, y1, y2, y3⟩ := Y
      unfold hv at cHa
      simp only at cHa
      clear cEa o8 f8 b8 HOf7
      go_wp2_with fail
      refine cHa.mono ?_
      rintro e w9 ⟨rfl, f9, b9⟩
      have HC9 : Hid (Below w7.heap.size w7 w9) := bt HC8.out b9
      obtain ⟨FA', hma9, hdis⟩ := f9.lies
      have HMa9 : Hid (WalkMi.Mi w9 w.heap.size ba FA' key ma ∧ Ok key ma) := ⟨hma9, f9.ok⟩
      have HMb9 : Hid (WalkMi.Mi w9 w.heap.size bb FB key Mirrors.start) := HMb7.out.kept (Kept.of_below (fun _ => False) HC9.out) (fun _ _ h => h)
      have HO9 : Hid (w9.ownsRow w7.heap.size 38 2 (.slice a8 n c8) n (cells l)) := owns_kept HO8.out (Kept.of_below (fun _ => False) b9) (fun _ _ h => h)
      have HA9 : Hid (At w9 gx ⟨x0, x1, x2, x3⟩) := HA7.out.below HC9.out
      obtain ⟨T2, HT2⟩ : ∃ T2 : Nat → Prop, Hid (∀ k, T2 k ↔ FA' k ∨ k = gx ∨ (Value.slice a8 n c8).ownBlock = some k) := ⟨fun k => FA' k ∨ k = gx ∨ (Value.slice a8 n c8).ownBlock = some k, fun _ => Iff.rfl⟩
      have HOb : Hid (Off T2 w bb key Mirrors.start w9) := by
        have s1 := HG6.out
        have s2 := HS7.out
        have s3 := HC9.out.size
        have s4 := HC6.out.size
        have s5 := HB3.out.size
        refine ⟨⟨FB, HMb9.out, fun k hk1 hk2 => ?_⟩, fun k hk1 => ?_, f9.below, Mirrors.start_ok key⟩
        · have q0 := (HMb.out.1.foot k hk2).2
          rcases (HT2.out k).1 hk1 with q | q | q
          · exact hdis k ((HTe.out k).2 (.inl hk2)) q
          · omega
          · have := (HO9.out.lt k q).1
            omega
        · rcases (HT2.out k).1 hk1 with q | q | q
          · exact hma9.foot k q
          · exact ⟨by omega, by omega⟩
          · have := HO9.out.lt k q
            exact ⟨by omega, this.2⟩
      have cFb := follows HOb.out l a8 n c8 hln (fun w1 k1 _ => (Wide.of_owns (owns_kept HO9.out k1 fun i hi q => q ((HT2.out i).2 (.inr (.inr hi))))).2) (fun p _ hp => .inr ((HT2.out _).2 (.inr (.inr (by rw [hp]; rfl))))) HZ.out HT.out HLl.out ⟨y0, y1, y2, y3⟩ (fun h => by rw [← HYe.out]; exact HHd.out.1 h) (fun h => by rw [← HYe.out]; exact HHd.out.2.1 h)
      unfold hv at cFb
      simp only at cFb
      clear cHa b9 f9 hma9 hdis HMb7 HA7
      go_wp2_with fail
      refine cFb.mono ?_
      rintro e w10 ⟨rr, rfl, hrr, ⟨mb, hownb, -, -, hOfb⟩, k10⟩
      have HRes : Hid (Has w w10 ba key l ∧ Has w w10 bb key l ∧ At w10 gx ⟨x0, x1, x2, x3⟩ ∧ Below w.heap.size w w10) := by
        have hlt : gx < w9.heap.size := by
          have s1 := HG6.out.2
          have s2 := HS7.out
          have s3 := HC9.out.size
          omega
        have hns : ¬ ¬ T2 gx := fun q => q ((HT2.out gx).2 (.inr (.inl rfl)))
        obtain ⟨z0, z1, z2, z3⟩ := HA9.out
        obtain ⟨FB', hmb, _⟩ := hOfb.lies
        exact ⟨⟨⟨FA', ma, HMa9.out.1.kept k10 (fun i hi q => q ((HT2.out i).2 (.inl hi))), HMa9.out.2, HHd.out.2.2⟩⟩, ⟨⟨FB', mb, hmb, hOfb.ok, hownb⟩⟩, ⟨by rw [k10.cell hlt hns]; exact z0, by rw [k10.cell hlt hns]; exact z1, by rw [k10.cell hlt hns]; exact z2, by rw [k10.cell hlt hns]; exact z3⟩, hOfb.below⟩
      have HRr : Hid (0 < n → rr = true) := fun h => hrr (by rw [← HYe.out]; exact HHd.out.1 h)
      clear cFb hrr hownb hOfb k10 HOb
      cases hr : rr with
      | true =>
        clear hr
        go_wp2_with fail
        go_meet
        case rel => exact ⟨rfl, HRes⟩
      | false =>
        have i0 : ¬ (0 : Int) < (n : Int) := fun h => by
          have := HRr.out (by omega)
          rw [hr] at this
          cases this
        have HN0 : Hid (¬ 0 < n) := fun h => i0 (by omega)
        clear hr
        go_wp2_with fail
        go_meet
        case rel => exact ⟨by first | rfl | rw [decide_eq_false HN0.out], HRes⟩
    obtain ⟨rfl, HS⟩ := hcut
    clear HMa HMb HC3 HC6 HA6 HG6 HB6 HB1 HB2 HB3 HLt
    have HAn : Hid (∀ a' c' w', Below w.heap.size w w' → Wide 2 w' a' n c' (cells l) → Calls Tryz.prog 8 #[.slice a' n c', .int .i64 key, .int .i64 0, .string ask] w' fun e w'' => e = .returned (.tuple #[.string (Nums.str (answer l key 0 ask.data.toList).1), errv (answer l key 0 ask.data.toList).2]) ∧ Below w'.heap.size w' w'') := fun a' c' w' b r' => WalkSeAns.answer_any l a' n c' key 0 ask w' r' HZ.out hs (HT.out w' b) (HSy.out w' b)
    obtain ⟨AX, HAX⟩ : ∃ AX, Hid (Nums.str (answer l key 0 ask.data.toList).1 = AX) := ⟨_, rfl⟩
    rw [HAX.out] at HAn
    have HWh : Hid (∀ a' c' w', Below w.heap.size w w' → Wide 2 w' a' n c' (cells l) → Calls Tryz.prog 25 #[.slice a' n c', .agg #[.int .i64 x0, .int .i64 x1, .int .i64 x2, .int .i64 x3], .int .i64 key] w' fun e w'' => e = .returned .nilIface ∧ Below w'.heap.size w' w'') := fun a' c' w' b r' => by
      have h := WalkAu.whole_any l a' n c' ⟨x0, x1, x2, x3⟩ key w' r' HZ.out (HT.out w' b)
      have e : Audits.wholeE l ⟨x0, x1, x2, x3⟩ key = 0 := by
        rw [← HXL.out]
        exact Audits.whole_of (Serves.log_verify HLl.out) (Answers.log_ok HLl.out).1 (by rw [Serves.log_is HLl.out]) (by rw [Serves.log_is HLl.out])
      rw [e, errv0] at h
      exact h
    obtain ⟨AE, HAE⟩ : ∃ AE, Hid (errv (answer l key 0 ask.data.toList).2 = AE) := ⟨_, rfl⟩
    rw [HAE.out] at HAn
    have HSt : Hid (∀ w', Below wc.heap.size wc w' → Has w w' ba key l ∧ Has w w' bb key l ∧ At w' gx ⟨x0, x1, x2, x3⟩ ∧ Below w.heap.size w w') := fun w' b => by
      obtain ⟨q1, q2, q3, q4⟩ := HS.out
      exact ⟨q1.below b, q2.below b, q3.below b, bt q4 b⟩
    have HBc : Hid (Below w.heap.size w wc) := HS.out.2.2.2
    have hnb : n ≤ 17592186043904 := by omega
    clear HS
    go_wp2_with fail
    refine (HAn.out a cap wc HBc.out (HR.out wc HBc.out)).mono ?_
    rintro e w7 ⟨rfl, b7⟩
    have HC7 : Hid (Below wc.heap.size wc w7) := b7
    have cEa := (HSt.out w7 b7).1.entries n hln
    clear b7
    go_wp2_with fail
    refine cEa.mono ?_
    rintro e w8 ⟨a8, c8, rfl, r8, b8⟩
    have HC8 : Hid (Below wc.heap.size wc w8) := bt HC7.out b8
    have cA8 := HAn.out a8 c8 w8 (HSt.out w8 HC8.out).2.2.2 r8
    clear b8 cEa r8 HC7
    go_wp2_with fail
    refine cA8.mono ?_
    rintro e w9 ⟨rfl, b9⟩
    have HC9 : Hid (Below wc.heap.size wc w9) := bt HC8.out b9
    have cEb := (HSt.out w9 HC9.out).2.1.entries n hln
    clear b9 cA8 HC8
    go_wp2_with fail
    refine cEb.mono ?_
    rintro e w10 ⟨a10, c10, rfl, r10, b10⟩
    have HC10 : Hid (Below wc.heap.size wc w10) := bt HC9.out b10
    have cSm := WalkEntsSame.entries_same l a10 a n c10 cap w10 r10 (HR.out w10 (HSt.out w10 HC10.out).2.2.2) hnb
    clear b10 cEb r10 HC9
    go_wp2_with fail
    refine cSm.mono ?_
    rintro e w11 ⟨rfl, b11⟩
    have HC11 : Hid (Below wc.heap.size wc w11) := bt HC10.out b11
    clear b11 cSm HC10
    go_upto_region 18 with fail
    go_cut [96] from 86 to 95 (fun v we => v = .bool false ∧ Hid (Below wc.heap.size wc we))
    case first => as_aux_lemma =>
      by_cases h0 : 0 < n
      · have i0 : (0 : Int) < (n : Int) := by omega
        have HcE : Hid (∀ w', Below wc.heap.size wc w' → Calls Tryz.prog 22 #[.pointer (some ⟨bb, 0, none⟩)] w' fun e w'' => ∃ a c, e = .returned (.slice a n c) ∧ Wide 2 w'' a n c (cells l) ∧ Below w'.heap.size w' w'') := fun w' b => (HSt.out w' b).2.1.entries n hln
        obtain ⟨p0, p1, p2, p3⟩ := (HSt.out w11 HC11.out).2.2.1
        simp only at p0 p1 p2 p3
        have e0 : w11.drew.cell? ⟨gx, 0, none⟩ = some (.int .i64 x0) := p0
        have e1 : w11.drew.cell? ⟨gx, 1, none⟩ = some (.int .i64 x1) := p1
        have e2 : w11.drew.cell? ⟨gx, 2, none⟩ = some (.int .i64 x2) := p2
        have e4 : w11.drew.cell? ⟨gx, 3, none⟩ = some (.int .i64 x3) := p3
        clear p0 p1 p2 p3
        go_region_held3 (fun w' => w'.cell? ⟨gx, 0, none⟩ = some (.int .i64 x0) ∧ w'.cell? ⟨gx, 1, none⟩ = some (.int .i64 x1) ∧ w'.cell? ⟨gx, 2, none⟩ = some (.int .i64 x2) ∧ w'.cell? ⟨gx, 3, none⟩ = some (.int .i64 x3)) (first | exact ⟨t0, t1, t2, t3⟩ | exact ⟨k0, k1, k2, k3⟩ | exact ⟨e0, e1, e2, e4⟩ | go_keep) (first | (go_at_call 22; refine (HcE.out _ HC11.out.drew).mono ?_; rintro e w12 ⟨a12, c12, rfl, r12, b12⟩; have k0 := Lists.cell_below b12 e0; have k1 := Lists.cell_below b12 e1; have k2 := Lists.cell_below b12 e2; have k3 := Lists.cell_below b12 e4; have HC12 : Hid (Below wc.heap.size wc w12) := bt HC11.out.drew b12; have HR12 : Hid (Wide 2 w12 a12 n c12 (cells l)) := r12; clear r12 b12) | (go_at_call 25; refine (HWh.out _ _ _ (HSt.out _ HC12.out).2.2.2 HR12.out).mono ?_; rintro e w13 ⟨rfl, b13⟩; have t0 := Lists.cell_below b13 k0; have t1 := Lists.cell_below b13 k1; have t2 := Lists.cell_below b13 k2; have t3 := Lists.cell_below b13 k3; have HC13 : Hid (Below wc.heap.size wc w13) := bt HC12.out b13; clear b13))
        go_wp2_with fail
        go_meet
        case rel => exact ⟨rfl, HC13⟩
      · have i0 : ¬ (0 : Int) < (n : Int) := by omega
        go_quiet (fail)
        go_wp2_with fail
        go_meet
        case rel => exact ⟨rfl, WalkEntsSame.below_drewN HC11.out _⟩
    obtain ⟨rfl, HC12⟩ := hcut
    have HB12 : Hid (Below w.heap.size w wc) := (HSt.out _ HC12.out).2.2.2
    have hq := WalkEntsSame.beq_yes AX
    clear HSt HC12 HC11 HWh HAn
    by_cases hE2 : (answer l key 0 ask.data.toList).2 = 0
    · have e6 : AE = .nilIface := by rw [← HAE.out, hE2]; rfl
      clear hE2 HAE HAX
      subst e6
      go_wp2_with fail
      go_quiet (fail)
      go_wp2_with fail
      go_ret
      exact ⟨rfl, WalkEntsSame.below_drewN HB12.out _⟩
    · have e6 : AE = .iface 99 (.int .i64 ((answer l key 0 ask.data.toList).2 : Nat)) := by rw [← HAE.out]; exact errv_pos _ hE2
      clear hE2 HAE HAX
      subst e6
      generalize (((answer l key 0 ask.data.toList).2 : Nat) : Int) = EI
      go_wp2_with fail
      go_quiet (fail)
      go_wp2_with fail
      go_ret
      exact ⟨rfl, WalkEntsSame.below_drewN HB12.out _⟩

end Go.Proofs.YticadkggaanbjaaGreatDoor.WalkTopFollows
