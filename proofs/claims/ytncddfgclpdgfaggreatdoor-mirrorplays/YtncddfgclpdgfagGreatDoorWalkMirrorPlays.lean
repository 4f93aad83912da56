/-
  The walk of MirrorPlays: any replies of a log that grows, or lies.
-/
import Derived.Test.YtncddfgclpdgfagGreatDoorMirBoth
import Derived.Test.YtncddfgclpdgfagGreatDoorWalkReplies
import Derived.Test.YtncddfgclpdgfagGreatDoorWalkEntsSame
import Derived.Test.YtncddfgclpdgfagGreatDoorReplyAll
import Derived.Test.YtncddfgclpdgfagGreatDoorWalkTold
import Derived.Test.YtncddfgclpdgfagGreatDoorHeadRef
import Derived.Deep.RegionHeld3
import Derived.Deep.DeepMust
import Derived.Deep.CutBlock
namespace Go.Proofs.YtncddfgclpdgfagGreatDoor.WalkMirrorPlays
open Go.RowKit
open Lists (Row bt ints)
open Keeps (Kept owns_kept)
open Wides (Wide owns_wide)
open Entries (Entry entE entsE)
open EntRows (cells)
open Errs (errv errv0 errv_pos)
open Heads (isKey)
open Mirrors (Mir Reply Want Ok hearE hearM rootE)
open ReplyRows (RFine RAt)
open MirDoc (Dm Lay)
open MirVals (rv cell7 aggR sizeR)
open MirVals (wv)
open MirBoth (Both RO)

theorem wf_i64 {z : Int} (h : (Lit.int .i64 z).wf = true) : -9223372036854775808 ≤ z ∧ z ≤ 9223372036854775807 := by
  have h1 : IntKind.i64.min = -9223372036854775808 := by decide
  have h2 : IntKind.i64.max = 9223372036854775807 := by decide
  simp only [Lit.wf, h1, h2] at h
  simpa using h
theorem keep1 (w : World) {g j : Nat} {p : Addr} (u : Value) (h : ¬ p.block = g) : (w.setCell ⟨g, j, none⟩ u).cell? p = w.cell? p := World.cell?_of_block (w := w) (Below.heap_setCell _ _ _ _ h)
/-- a reply is stored elsewhere -/
theorem keep7 (w : World) {g : Nat} {p : Addr} (u0 u1 u2 u3 u4 u5 u6 : Value) (h : ¬ p.block = g) : (((((((w.setCell ⟨g, 0, none⟩ u0).setCell ⟨g, 1, none⟩ u1).setCell ⟨g, 2, none⟩ u2).setCell ⟨g, 3, none⟩ u3).setCell ⟨g, 4, none⟩ u4).setCell ⟨g, 5, none⟩ u5).setCell ⟨g, 6, none⟩ u6).cell? p = w.cell? p := by
  rw [keep1 _ _ h, keep1 _ _ h, keep1 _ _ h, keep1 _ _ h, keep1 _ _ h, keep1 _ _ h, keep1 _ _ h]
/-- the document's, new, and the program's -/
theorem both_start {w0 w : World} {bx : Nat} {F : Nat → Prop} {key : Int} (h : WalkMi.Mi w w0.heap.size bx F key Mirrors.start) (hb : Below w0.heap.size w0 w) :
    Both w0 (w.alloc (.cells #[.int .i64 key, .slice none 0 0, .int .i64 0, .int .i64 0, .int .i64 0, .int .i64 0, .int .i64 0, .int .i64 0, .int .i64 0, .int .i64 0, .slice none 0 0] 62)) bx w.heap.size (fun k => F k ∨ k = w.heap.size) key Mirrors.start Mirrors.start := by
  have k1 : Below w.heap.size w (w.alloc (.cells #[.int .i64 key, .slice none 0 0, .int .i64 0, .int .i64 0, .int .i64 0, .int .i64 0, .int .i64 0, .int .i64 0, .int .i64 0, .int .i64 0, .slice none 0 0] 62)) := (Below.refl _ _).alloc (Nat.le_refl _) _
  have hf := h.foot
  have hbs := hb.size
  refine ⟨⟨F, MirDoc.foot w.heap.size (.slice none 0 0) (.slice none 0 0), h.kept (Kept.of_below (fun _ => False) k1) (fun _ _ q => q), ⟨.slice none 0 0, .slice none 0 0, ⟨World.rowIs_alloc _ _ _ _ ?_, World.ownsRow_nil _ _ _ _, World.ownsRow_nil _ _ _ _, hbs, by simp [Value.ownBlock], by simp [Value.ownBlock], fun k q => by simp [Value.ownBlock] at q⟩, fun _ => Iff.rfl⟩, fun k q s => ?_, fun k q => ?_⟩, fun k q => ?_, bt hb k1⟩
  · intro j hj
    match j, hj with
    | 0, _ | 1, _ | 2, _ | 3, _ | 4, _ | 5, _ | 6, _ | 7, _ | 8, _ | 9, _ | 10, _ => rfl
    | j + 11, h => simp at h; omega
  · have := hf k q
    simp [MirDoc.foot, Value.ownBlock] at s
    omega
  · rcases q with q | q
    · exact .inl q
    · simp [MirDoc.foot, Value.ownBlock] at q
      exact .inr q
  · rcases q with q | q
    · have := hf k q
      exact ⟨this.1, by simp; omega⟩
    · subst q
      exact ⟨hbs, by simp⟩

set_option maxHeartbeats 16000000 in
set_option maxRecDepth 100000 in
theorem walk (key : Int) (_ : (Lit.int .i64 key).wf = true) (a : Option Addr) (n cap : Nat) (l : List Entry) (_ : l.length * 24 ≤ 140737488351232) (hw : ∀ x ∈ l, (Lit.int .i64 x.1).wf = true ∧ x.2.size ≤ 140737488351232)
    (a2 : Option Addr) (n2 cap2 : Nat) (l2 : List (List Int)) (_ : l2.length * 24 ≤ 140737488351232) (hw2 : ∀ x ∈ l2, ∀ z ∈ x, (Lit.int .i64 z).wf = true) (a3 : Option Addr) (n3 cap3 : Nat) (l3 : List Reply) (_ : l3.length * 88 ≤ 140737488351232) (hw3 : ∀ x ∈ l3, RFine x) (w : World)
    (r : Wide 2 w a n cap (cells l)) (r2 : IntRows.Rowss w a2 n2 cap2 l2) (r3 : ReplyRows.Replies w a3 n3 cap3 l3) (hL : WalkTold.Laid w) (hP : WalkMi.Asks w) :
    Calls Tryz.prog 4 #[.int .i64 key, .slice a n cap, .slice a2 n2 cap2, .slice a3 n3 cap3] w fun e w' => e = .returned (.bool true) ∧ Below w.heap.size w w' := by
  have HErr : Hid (∀ (e : Nat) (m : Int) (w1 : World), Below w.heap.size w w1 → Calls Tryz.prog 15 #[errv e, .int .i64 m] w1 fun r w' => r = .returned (.bool ((e : Int) == m)) ∧ Below w1.heap.size w1 w') := fun e m w1 h =>
    WalkTold.error_is e m w1 (hL.below h)
  have HI : Hid (Wide 2 w a n cap (cells l) ∧ IntRows.Rowss w a2 n2 cap2 l2 ∧ ReplyRows.Replies w a3 n3 cap3 l3) := ⟨r, r2, r3⟩
  have HA : Hid (∀ w1, Below w.heap.size w w1 → WalkMi.Asks w1) := fun w1 h => hP.below h
  have aR := aggR
  have zR := sizeR
  clear hL r r2 r3 hP
  have cN := WalkMi.new_any key w w.heap.size (Nat.le_refl _) (HA.out w (Below.refl _ _))
  go_enter Tryz.func4, Tryz.ntmps4
  go_wp2_with fail
  refine (WalkHeadRef.key_any key _).mono ?_
  rintro e w1 ⟨rfl, hw1⟩
  subst w1
  by_cases hk : isKey key = true
  rotate_left
  · have hk0 : isKey key = false := by simpa using hk
    rw [hk0] at cN ⊢
    simp only [Bool.false_eq_true, if_false] at cN
    clear hk
    go_wp2_with fail
    refine cN.mono ?_
    rintro e w2 ⟨v, rfl, _, b2⟩
    clear cN
    go_wp2_with fail
    refine (HErr.out _ _ _ b2).mono ?_
    rintro e w3 ⟨rfl, b3⟩
    go_wp2_with fail
    go_ret
    exact ⟨rfl, bt b2 b3⟩
  rw [hk] at cN ⊢
  simp only [if_true] at cN
  go_wp2_with fail
  refine cN.mono ?_
  rintro e w2 ⟨v, rfl, hv, b2⟩
  obtain ⟨bx, F, rfl, hmi, _⟩ := by first | exact hv rfl | exact hv trivial
  clear cN hv
  go_wp2_with fail
  refine (HErr.out _ _ _ b2).mono ?_
  rintro e w3 ⟨rfl, b3⟩
  have HB : Hid (Both w (w3.alloc (.cells #[.int .i64 key, .slice none 0 0, .int .i64 0, .int .i64 0, .int .i64 0, .int .i64 0, .int .i64 0, .int .i64 0, .int .i64 0, .int .i64 0, .slice none 0 0] 62)) bx w3.heap.size (fun k => F k ∨ k = w3.heap.size) key Mirrors.start Mirrors.start) := both_start (hmi.kept (Kept.of_below (fun _ => False) b3) fun _ _ q => q) (bt b2 b3)
  clear hmi b2 b3
  go_upto_region 11 with fail
  generalize w3.alloc (.cells #[.int .i64 key, .slice none 0 0, .int .i64 0, .int .i64 0, .int .i64 0, .int .i64 0, .int .i64 0, .int .i64 0, .int .i64 0, .int .i64 0, .slice none 0 0] 62) = w4 at HB ⊢
  generalize w3.heap.size = bm at HB ⊢
  go_loopw [9, 13, 15, 16, 17, 18, 19] (fun _ _ iv _ _ _ _ wr => ∃ (i : Nat) (m : Mir) (G : Nat → Prop), i ≤ 60 ∧ i ≤ n2 ∧ iv = .int .i64 (i : Int) ∧ Hid (Both w wr bx bm G key m m) ∧ Hid (Ok key m)) (fun _ _ iv _ _ _ _ _ => 60 - (intOf iv).toNat)
  case atStart => exact ⟨0, Mirrors.start, _, by omega, Nat.zero_le _, rfl, HB, Mirrors.start_ok key⟩
  case round =>
    obtain ⟨i, m, G, hi, hin, rfl, HBo, HOk⟩ := hrel
    by_cases hgo : ¬ (i < n2 ∧ i < 60)
    · have HZ : Hid (Below w.heap.size w wr) := HBo.out.bel
      by_cases h1 : i < n2
      · have i1 : (i : Int) < (n2 : Int) := by omega
        have i2 : ¬ (i : Int) < 60 := by omega
        clear hgo
        go_wp2_with fail
        go_ret
        exact ⟨rfl, HZ.out⟩
      · have i1 : ¬ (i : Int) < (n2 : Int) := by omega
        clear hgo
        go_wp2_with fail
        go_ret
        exact ⟨rfl, HZ.out⟩
    have hgo : i < n2 ∧ i < 60 := Decidable.not_not.1 hgo
    obtain ⟨g1, g2⟩ := hgo
    have i1 : (i : Int) < (n2 : Int) := by omega
    have i2 : (i : Int) < 60 := by omega
    obtain ⟨bst, off2, rfl, hrows⟩ := HI.out.2.1.2.2 (by omega)
    obtain ⟨li, hli⟩ : ∃ li, l2[i]? = some li := ⟨_, List.getElem?_eq_getElem (by have := HI.out.2.1.1; omega)⟩
    obtain ⟨ai, ci, hci, hrw⟩ := hrows i li hli
    have HLi : Hid (w.cell? ⟨bst, off2 + i, none⟩ = some (.slice ai li.length ci) ∧ Row w ai li.length ci (ints li) ∧ ∀ z ∈ li, (Lit.int .i64 z).wf = true) := ⟨hci, hrw, hw2 li (List.mem_of_getElem? hli)⟩
    clear hci hrw hrows hli
    have HV : Hid ((wr.alloc (.cells #[.int .i64 0, .int .i64 0] 63)).rowIs wr.heap.size 63 2 (fun k => if k = 0 then .int .i64 0 else .int .i64 0)) := World.rowIs_alloc _ _ _ _ (fun j hj => by match j, hj with | 0, _ | 1, _ => rfl | j + 2, h => simp at h; omega)
    have HB1 : Hid (Both w (wr.alloc (.cells #[.int .i64 0, .int .i64 0] 63)) bx bm G key m m) := HBo.out.below ((Below.refl _ _).alloc (Nat.le_refl _) _)
    have HPv : Hid (¬ G wr.heap.size ∧ w.heap.size ≤ wr.heap.size) := ⟨fun q => Nat.lt_irrefl _ (HBo.out.foot _ q).2, HBo.out.bel.size⟩
    clear HBo
    go_upto_region 15 with fail
    generalize wr.alloc (.cells #[.int .i64 0, .int .i64 0] 63) = w13 at HV HB1 ⊢
    generalize wr.heap.size = pv at HV HPv ⊢
    go_loopw [17] (fun jv wd => ∃ (j : Nat) (p q : Int), j ≤ 2 ∧ jv = .int .i64 (j : Int) ∧ Hid (wd.rowIs pv 63 2 (fun k => if k = 0 then .int .i64 p else .int .i64 q)) ∧ Hid (Kept (fun k => k = pv) w13 wd) ∧ Hid ((-9223372036854775808 ≤ p ∧ p ≤ 9223372036854775807) ∧ (-9223372036854775808 ≤ q ∧ q ≤ 9223372036854775807))) (fun jv _ => 2 - (intOf jv).toNat)
    case atStart => exact ⟨0, 0, 0, by omega, rfl, HV, Kept.refl _ _, ⟨by omega, by omega⟩, by omega, by omega⟩
    case round =>
      obtain ⟨j, p, q, hj, rfl, HRv, HKv, HPq⟩ := hrel
      have HBd : Hid (Both w wr bx bm G key m m) := HB1.out.kept HKv.out fun i s => by rw [s]; exact HPv.out
      have cs : wr.cell? ⟨bst, off2 + i, none⟩ = some (.slice ai li.length ci) := Lists.cell_below HBd.out.bel HLi.out.1
      by_cases hgo : j < li.length ∧ j < 2
      · obtain ⟨g3, g4⟩ := hgo
        have i3 : (j : Int) < (li.length : Int) := by omega
        have i4 : (j : Int) < 2 := by omega
        obtain ⟨bi, oi, rfl, hcz⟩ := HLi.out.2.1.2.2 (by omega)
        have cz : wr.cell? ⟨bi, oi + j, none⟩ = some (.int .i64 (li.getD j 0)) := Lists.cell_below HBd.out.bel (hcz j _ (Lists.ints_at g3))
        have hz := wf_i64 (HLi.out.2.2 (li.getD j 0) (by rw [List.getD_eq_getElem?_getD, List.getElem?_eq_getElem g3]; exact List.getElem_mem g3))
        have r0 := HRv.out.cell (i := 0) (by omega)
        have r1 := HRv.out.cell (i := 1) (by omega)
        have f0 := HRv.out.frozen 0
        have f1 := HRv.out.frozen 1
        generalize li.getD j 0 = z at cz hz
        have HZ : Hid (-9223372036854775808 ≤ z ∧ z ≤ 9223372036854775807) := hz
        clear hcz hz
        have hj2 : j = 0 ∨ j = 1 := by omega
        rcases hj2 with rfl | rfl
        · rw [Nat.add_zero] at cz
          go_wp2_with fail
          go_roundw
          case rel => exact ⟨1, z, q, by omega, by go_num, (HRv.out.set 0 (.int .i64 z)).congr (fun k hk => by match k, hk with | 0, _ | 1, _ => rfl | k + 2, h => omega), HKv.out.setCell (.inl rfl) _, HZ.out, HPq.out.2⟩
          case measure => simp [intOf]
        · go_wp2_with fail
          go_roundw
          case rel => exact ⟨2, p, z, by omega, by go_num, (HRv.out.set 1 (.int .i64 z)).congr (fun k hk => by match k, hk with | 0, _ | 1, _ => rfl | k + 2, h => omega), HKv.out.setCell (.inl rfl) _, HPq.out.1, HZ.out⟩
          case measure => simp [intOf]
      · go_upto_region 15 with fail
        go_cut [62] from 52 to 61 (fun sv wd => sv = .bool false ∧ wr = wd)
        case first => as_aux_lemma =>
          by_cases h8 : j < li.length
          · have i3 : (j : Int) < (li.length : Int) := by omega
            have i4 : ¬ (j : Int) < 2 := by omega
            clear hgo
            go_wp2_with fail
            go_meet
            case rel => exact ⟨by simp, by simp⟩
          · have i3 : ¬ (j : Int) < (li.length : Int) := by omega
            clear hgo
            go_wp2_with fail
            go_meet
            case rel => exact ⟨by simp, by simp⟩
        obtain ⟨rfl, rfl⟩ := hcut
        clear hgo cs HB1 HKv HV
        have HZr : Hid ((wr.alloc (.cells #[.int .i64 0, .int .i64 0, .int .i64 0, .int .i64 0, .int .i64 0, .slice none 0 0, .slice none 0 0] 65)).rowIs wr.heap.size 65 7 (cell7 0 0 0 0 0 (.slice none 0 0) (.slice none 0 0))) := World.rowIs_alloc _ _ _ _ (fun j hj => by match j, hj with | 0, _ | 1, _ | 2, _ | 3, _ | 4, _ | 5, _ | 6, _ => rfl | j + 7, h => simp at h; omega)
        have bA : Below wr.heap.size wr (wr.alloc (.cells #[.int .i64 0, .int .i64 0, .int .i64 0, .int .i64 0, .int .i64 0, .slice none 0 0, .slice none 0 0] 65)) := (Below.refl _ _).alloc (Nat.le_refl _) _
        have HB2 : Hid (Both w (wr.alloc (.cells #[.int .i64 0, .int .i64 0, .int .i64 0, .int .i64 0, .int .i64 0, .slice none 0 0, .slice none 0 0] 65)) bx bm G key m m) := HBd.out.below bA
        have HRv2 : Hid ((wr.alloc (.cells #[.int .i64 0, .int .i64 0, .int .i64 0, .int .i64 0, .int .i64 0, .slice none 0 0, .slice none 0 0] 65)).rowIs pv 63 2 (fun k => if k = 0 then .int .i64 p else .int .i64 q)) := HRv.out.of_block (bA.block _ HRv.out.lt)
        have HPr : Hid (¬ G wr.heap.size ∧ w.heap.size ≤ wr.heap.size ∧ pv < wr.heap.size) := ⟨fun s => Nat.lt_irrefl _ (HBd.out.foot _ s).2, HBd.out.bel.size, HRv.out.lt⟩
        clear bA HBd HRv
        go_upto_region 19 with fail
        generalize wr.alloc (.cells #[.int .i64 0, .int .i64 0, .int .i64 0, .int .i64 0, .int .i64 0, .slice none 0 0, .slice none 0 0] 65) = w18 at HZr HB2 HRv2 ⊢
        generalize wr.heap.size = pr at HZr HPr ⊢
        have t0 : w18.cell? ⟨pv, 0, none⟩ = some (.int .i64 p) := HRv2.out.cell (i := 0) (by omega)
        have t1 : w18.cell? ⟨pv, 1, none⟩ = some (.int .i64 q) := HRv2.out.cell (i := 1) (by omega)
        go_cut [93] from 74 to 92 (fun sv wd => sv = .bool (decide (0 ≤ p ∧ p ≤ (n : Int) ∧ 0 ≤ q ∧ p ≤ 200)) ∧ w18 = wd)
        case first => as_aux_lemma =>
          by_cases h1 : 0 ≤ p
          · by_cases h2 : p ≤ (n : Int)
            · by_cases h3 : 0 ≤ q
              · by_cases h4 : p ≤ 200
                · have hd : decide (0 ≤ p ∧ p ≤ (n : Int) ∧ 0 ≤ q ∧ p ≤ 200) = true := decide_eq_true ⟨h1, h2, h3, h4⟩
                  go_wp2_with fail
                  go_meet
                  case rel => exact ⟨by first | rw [hd] | simp [h1, h2, h3, h4], by simp⟩
                · have hd : decide (0 ≤ p ∧ p ≤ (n : Int) ∧ 0 ≤ q ∧ p ≤ 200) = false := decide_eq_false fun s => h4 s.2.2.2
                  go_wp2_with fail
                  go_meet
                  case rel => exact ⟨by first | rw [hd] | simp [h1, h2, h3, h4], by simp⟩
              · have hd : decide (0 ≤ p ∧ p ≤ (n : Int) ∧ 0 ≤ q ∧ p ≤ 200) = false := decide_eq_false fun s => h3 s.2.2.1
                go_wp2_with fail
                go_meet
                case rel => exact ⟨by first | rw [hd] | simp [h1, h2, h3], by simp⟩
            · have hd : decide (0 ≤ p ∧ p ≤ (n : Int) ∧ 0 ≤ q ∧ p ≤ 200) = false := decide_eq_false fun s => h2 s.2.1
              go_wp2_with fail
              go_meet
              case rel => exact ⟨by first | rw [hd] | simp [h1, h2], by simp⟩
          · have hd : decide (0 ≤ p ∧ p ≤ (n : Int) ∧ 0 ≤ q ∧ p ≤ 200) = false := decide_eq_false fun s => h1 s.1
            go_wp2_with fail
            go_meet
            case rel => exact ⟨by first | rw [hd] | simp [h1], by simp⟩
        obtain ⟨rfl, rfl⟩ := hcut
        obtain ⟨Bq, HBq⟩ : ∃ Bq : Bool, Hid (decide (0 ≤ p ∧ p ≤ (n : Int) ∧ 0 ≤ q ∧ p ≤ 200) = Bq) := ⟨_, rfl⟩
        rw [HBq.out]
        go_upto_if 93 with fail
        go_cut [93] from 94 to 113 (fun _ wd => ∃ (r : Reply) (a5 : Option Addr) (c5 : Nat) (a6 : Option Addr) (c6 : Nat), Hid (RO wd pr r a5 c5 a6 c6 G) ∧ Hid (Both w wd bx bm G key m m))
        case first => as_aux_lemma =>
          cases Bq with
          | true =>
            obtain ⟨h1, h2, h3, h4⟩ := of_decide_eq_true HBq.out
            obtain ⟨P, rfl⟩ := Int.eq_ofNat_of_zero_le h1
            have hPn : P ≤ n := by omega
            have hP2 : P ≤ 200 := by omega
            have hcap : P ≤ cap := Nat.le_trans hPn HI.out.1.2.1
            have i5 : (P : Int) ≤ (cap : Int) := by omega
            have i6 : (0 : Int) ≤ (P : Int) := by omega
            have HSS : Hid (∀ w', Below w18.heap.size w18 w' → w'.cell? ⟨pv, 0, none⟩ = some (.int .i64 (P : Int)) ∧ w'.cell? ⟨pv, 1, none⟩ = some (.int .i64 q)) := fun w' b' => ⟨Lists.cell_below b' t0, Lists.cell_below b' t1⟩
            have HW : Hid (∀ w', Below w18.heap.size w18 w' → Calls Tryz.prog 24 #[.pointer (some ⟨bm, 0, none⟩)] w' fun e w'' => e = .returned (wv m.want) ∧ Below w'.heap.size w' w'') := fun w' b' => MirBoth.want_doc (HB2.out.below b') HOk.out
            have HR : Hid (∀ w', Below w18.heap.size w18 w' → Calls Tryz.prog 23 #[.slice a P cap, .int .i64 key, wv m.want, .int .i64 q] w' fun e w'' => WalkReplies.Rep w' e w'') := fun w' b' => WalkReplies.replies_any (l.take P) a P cap key m.want q w' ((WalkReplies.wide_take HI.out.1 P hPn).below (bt HB2.out.bel b')) hP2 (fun e he => (hw e (List.mem_of_mem_take he)).2) h3 HPq.out.2.2
            have HZs : Hid (∀ w', Below w18.heap.size w18 w' → w'.rowIs pr 65 7 (cell7 0 0 0 0 0 (.slice none 0 0) (.slice none 0 0))) := fun w' b' => HZr.out.of_block (b'.block _ HZr.out.lt)
            have hpp : pv ≠ pr := by have := HPr.out.2.2; omega
            have K0 : Hid (∀ (w' : World) (u0 u1 u2 u3 u4 u5 u6 : Value), (((((((w'.setCell ⟨pr, 0, none⟩ u0).setCell ⟨pr, 1, none⟩ u1).setCell ⟨pr, 2, none⟩ u2).setCell ⟨pr, 3, none⟩ u3).setCell ⟨pr, 4, none⟩ u4).setCell ⟨pr, 5, none⟩ u5).setCell ⟨pr, 6, none⟩ u6).cell? ⟨pv, 0, none⟩ = w'.cell? ⟨pv, 0, none⟩) := fun w' u0 u1 u2 u3 u4 u5 u6 => keep7 w' (p := ⟨pv, 0, none⟩) u0 u1 u2 u3 u4 u5 u6 hpp
            have K1 : Hid (∀ (w' : World) (u0 u1 u2 u3 u4 u5 u6 : Value), (((((((w'.setCell ⟨pr, 0, none⟩ u0).setCell ⟨pr, 1, none⟩ u1).setCell ⟨pr, 2, none⟩ u2).setCell ⟨pr, 3, none⟩ u3).setCell ⟨pr, 4, none⟩ u4).setCell ⟨pr, 5, none⟩ u5).setCell ⟨pr, 6, none⟩ u6).cell? ⟨pv, 1, none⟩ = w'.cell? ⟨pv, 1, none⟩) := fun w' u0 u1 u2 u3 u4 u5 u6 => keep7 w' (p := ⟨pv, 1, none⟩) u0 u1 u2 u3 u4 u5 u6 hpp
            go_upto_region 20 with fail
            obtain ⟨s0, s1⟩ := HSS.out _ (Below.refl _ w18).drew
            go_region_held3 (fun w' => w'.cell? ⟨pv, 0, none⟩ = some (.int .i64 (P : Int)) ∧ w'.cell? ⟨pv, 1, none⟩ = some (.int .i64 q)) (first | (rw [K0.out, K1.out]; exact ⟨s0, s1⟩) | exact ⟨s0, s1⟩)
              (first | (go_at_call 24; refine (HW.out _ (Below.refl _ w18).drew).mono ?_; rintro e w21 ⟨rfl, b21⟩; have HB21 : Hid (Below w18.heap.size w18 w21) := bt (Below.refl _ w18).drew b21; obtain ⟨s0, s1⟩ := HSS.out _ HB21.out; clear b21) | (go_at_call 23; refine (HR.out _ HB21.out).mono ?_; rintro e w22 ⟨⟨qw, ⟨qs, qr, qt, qg⟩, qe, qp⟩, a5, c5, a6, c6, rfl, hfi, h5, h6, n5, n6, b22⟩; simp only [rv]; have HB22 : Hid (Below w18.heap.size w18 w22) := bt HB21.out b22; obtain ⟨s0, s1⟩ := HSS.out _ HB22.out; have hz := HZs.out _ HB22.out; have z0 := hz.cell (i := 0) (by omega); have z1 := hz.cell (i := 1) (by omega); have z2 := hz.cell (i := 2) (by omega); have z3 := hz.cell (i := 3) (by omega); have z4 := hz.cell (i := 4) (by omega); have z5 := hz.cell (i := 5) (by omega); have z6 := hz.cell (i := 6) (by omega); have f0 := hz.frozen 0; have f1 := hz.frozen 1; have f2 := hz.frozen 2; have f3 := hz.frozen 3; have f4 := hz.frozen 4; have f5 := hz.frozen 5; have f6 := hz.frozen 6; have HF : Hid (w22.rowIs pr 65 7 (cell7 0 0 0 0 0 (.slice none 0 0) (.slice none 0 0)) ∧ RFine ⟨qw, ⟨qs, qr, qt, qg⟩, qe, qp⟩ ∧ Wide 2 w22 a5 qe.length c5 (cells qe) ∧ Row w22 a6 qp.length c6 (ints qp) ∧ (∀ x, a5 = some x → w21.heap.size ≤ x.block) ∧ (∀ x, a6 = some x → w21.heap.size ≤ x.block)) := ⟨hz, hfi, h5, h6, n5, n6⟩; clear b22 hz hfi h5 h6 n5 n6))
            have HEND : Hid (RO (WalkReplies.put7 w22 pr qw qs qr qt qg (.slice a5 qe.length c5) (.slice a6 qp.length c6)) pr ⟨qw, ⟨qs, qr, qt, qg⟩, qe, qp⟩ a5 c5 a6 c6 G ∧ Both w (WalkReplies.put7 w22 pr qw qs qr qt qg (.slice a5 qe.length c5) (.slice a6 qp.length c6)) bx bm G key m m) := by
              obtain ⟨hz, hfi, h5, h6, n5, n6⟩ := HF.out
              have kS := WalkReplies.kept_put7 w22 pr qw qs qr qt qg (.slice a5 qe.length c5) (.slice a6 qp.length c6)
              have hl1 := HZr.out.lt
              have hl2 := HB21.out.size
              refine ⟨⟨?_, MirBoth.wide_kept h5 kS fun x _ hx s => ?_, MirBoth.row_kept h6 kS fun x _ hx s => ?_, HPr.out.1, fun x _ hx s => ?_, fun x _ hx s => ?_, hfi⟩, (HB2.out.below HB22.out).kept kS fun i s => ?_⟩
              · exact (((((((hz.set 0 (.int .i64 qw)).set 1 (.int .i64 qs)).set 2 (.int .i64 qr)).set 3 (.int .i64 qt)).set 4 (.int .i64 qg)).set 5 (.slice a5 qe.length c5)).set 6 (.slice a6 qp.length c6)).congr (fun k hk => by match k, hk with | 0, _ | 1, _ | 2, _ | 3, _ | 4, _ | 5, _ | 6, _ => rfl | k + 7, h => omega)
              · have := n5 x hx
                omega
              · have := n6 x hx
                omega
              · have := n5 x hx
                have := (HB2.out.foot _ s).2
                omega
              · have := n6 x hx
                have := (HB2.out.foot _ s).2
                omega
              · rw [s]
                exact ⟨HPr.out.1, HPr.out.2.1⟩
            clear z0 z1 z2 z3 z4 z5 z6 f0 f1 f2 f3 f4 f5 f6 K0 K1 HF HZs HR HW HSS
            go_wp2_with fail
            go_meet
            case rel => exact ⟨_, a5, c5, a6, c6, HEND.out.1, HEND.out.2⟩
          | false =>
            by_cases h3 : 0 < n3
            · have i3 : (0 : Int) < (n3 : Int) := by omega
              obtain ⟨b3, off3, rfl, hraw⟩ := HI.out.2.2.2.2 h3
              obtain ⟨K, HK⟩ : ∃ K : Nat, Hid (i % n3 = K) := ⟨_, rfl⟩
              have hKn : K < n3 := by rw [← HK.out]; exact Nat.mod_lt _ h3
              have k1 : (i : Int) % (n3 : Int) = (K : Int) := by have := HK.out; omega
              have k2 : (K : Int) < (n3 : Int) := by omega
              have k3 : (0 : Int) ≤ (K : Int) := by omega
              have k4 : ((n3 : Int) == 0) = false := by rw [beq_eq_false_iff_ne]; omega
              have k5 : ((i : Int)).tmod (n3 : Int) = (K : Int) := by rw [Int.tmod_eq_emod_of_nonneg (by omega)]; exact k1
              obtain ⟨r, hr⟩ : ∃ r, l3[K]? = some r := ⟨_, List.getElem?_eq_getElem (by have := HI.out.2.2.1; omega)⟩
              have hfi := hw3 r (List.mem_of_getElem? hr)
              have h0 := hraw K r hr
              obtain ⟨qw, ⟨qs, qr, qt, qg⟩, qe, qp⟩ := r
              have x0 := Lists.cell_below HB2.out.bel h0.what
              have x1 := Lists.cell_below HB2.out.bel h0.size
              have x2 := Lists.cell_below HB2.out.bel h0.root
              have x3 := Lists.cell_below HB2.out.bel h0.time
              have x4 := Lists.cell_below HB2.out.bel h0.sign
              obtain ⟨a5, c5, e5, v5⟩ := h0.ents
              obtain ⟨a6, c6, e6, v6⟩ := h0.proof
              have x5 := Lists.cell_below HB2.out.bel e5
              have x6 := Lists.cell_below HB2.out.bel e6
              simp only at x0 x1 x2 x3 x4 x5 x6 v5 v6
              have z0 := HZr.out.cell (i := 0) (by omega)
              have z1 := HZr.out.cell (i := 1) (by omega)
              have z2 := HZr.out.cell (i := 2) (by omega)
              have z3 := HZr.out.cell (i := 3) (by omega)
              have z4 := HZr.out.cell (i := 4) (by omega)
              have z5 := HZr.out.cell (i := 5) (by omega)
              have z6 := HZr.out.cell (i := 6) (by omega)
              have f0 := HZr.out.frozen 0
              have f1 := HZr.out.frozen 1
              have f2 := HZr.out.frozen 2
              have f3 := HZr.out.frozen 3
              have f4 := HZr.out.frozen 4
              have f5 := HZr.out.frozen 5
              have f6 := HZr.out.frozen 6
              have HEND : Hid (RO (WalkReplies.put7 w18 pr qw qs qr qt qg (.slice a5 qe.length c5) (.slice a6 qp.length c6)) pr ⟨qw, ⟨qs, qr, qt, qg⟩, qe, qp⟩ a5 c5 a6 c6 G ∧ Both w (WalkReplies.put7 w18 pr qw qs qr qt qg (.slice a5 qe.length c5) (.slice a6 qp.length c6)) bx bm G key m m) := by
                have kS := WalkReplies.kept_put7 w18 pr qw qs qr qt qg (.slice a5 qe.length c5) (.slice a6 qp.length c6)
                have hl := HPr.out.2.1
                refine ⟨⟨?_, MirBoth.wide_kept (v5.below HB2.out.bel) kS fun x h hx s => ?_, MirBoth.row_kept (v6.below HB2.out.bel) kS fun x h hx s => ?_, HPr.out.1, fun x h hx s => ?_, fun x h hx s => ?_, hfi⟩, HB2.out.kept kS fun i s => ?_⟩
                · exact (((((((HZr.out.set 0 (.int .i64 qw)).set 1 (.int .i64 qs)).set 2 (.int .i64 qr)).set 3 (.int .i64 qt)).set 4 (.int .i64 qg)).set 5 (.slice a5 qe.length c5)).set 6 (.slice a6 qp.length c6)).congr (fun k hk => by match k, hk with | 0, _ | 1, _ | 2, _ | 3, _ | 4, _ | 5, _ | 6, _ => rfl | k + 7, h => omega)
                · have := MirBoth.wide_lt (by omega) v5 x h hx
                  omega
                · have := MirBoth.row_lt v6 x h hx
                  omega
                · have := MirBoth.wide_lt (by omega) v5 x h hx
                  have := (HB2.out.foot _ s).1
                  omega
                · have := MirBoth.row_lt v6 x h hx
                  have := (HB2.out.foot _ s).1
                  omega
                · rw [s]
                  exact ⟨HPr.out.1, HPr.out.2.1⟩
              clear h0 e5 e6 v5 v6 hfi hraw hr
              go_wp2_with fail
              go_meet
              case rel => exact ⟨_, a5, c5, a6, c6, HEND.out.1, HEND.out.2⟩
            · have i3 : ¬ (0 : Int) < (n3 : Int) := by omega
              have HEND : Hid (RO w18 pr ⟨0, Heads.zero, [], []⟩ none 0 none 0 G) := ⟨HZr.out, Wide.nil _ _ _ _, Row.nil _ _ _, HPr.out.1, fun x h0 => absurd h0 (by simp), fun x h0 => absurd h0 (by simp), ⟨by simp, by simp, fun e he => by cases he⟩⟩
              go_wp2_with fail
              go_meet
              case rel => exact ⟨_, none, 0, none, 0, HEND, HB2⟩
        obtain ⟨r, a5, c5, a6, c6, HRo, HB3⟩ := hcut
        clear HB2 HRv2 HZr HBq HPq t0 t1 HPr HPv
        -- both hear it
        as_aux_lemma =>
          have HOk2 : Hid (Ok key (hearM key m r)) := Mirrors.hear_ok HOk.out r
          have cH := MirBoth.hear_doc HB3.out HOk.out HRo.out
          have HCP : Hid (∀ (w' : World) (G' : Nat → Prop), Both w w' bx bm G' key m (hearM key m r) → RO w' pr r a5 c5 a6 c6 G' → Calls Tryz.prog 26 #[.pointer (some ⟨bx, 0, none⟩), rv r a5 c5 a6 c6] w' fun e w'' => e = .returned (errv (hearE key m r)) ∧ ∃ G'', Both w w'' bx bm G'' key (hearM key m r) (hearM key m r) ∧ RO w'' pr r a5 c5 a6 c6 G'') := fun w' G' h1 h2 => MirBoth.hear_prog h1 (HA.out _ h1.bel) HOk.out h2
          have HCe : Hid (∀ (w' : World) (G' : Nat → Prop), RO w' pr r a5 c5 a6 c6 G' → w'.cell? ⟨pr, 0, none⟩ = some (.int .i64 r.what) ∧ w'.cell? ⟨pr, 1, none⟩ = some (.int .i64 r.head.size) ∧ w'.cell? ⟨pr, 2, none⟩ = some (.int .i64 r.head.root) ∧ w'.cell? ⟨pr, 3, none⟩ = some (.int .i64 r.head.time) ∧ w'.cell? ⟨pr, 4, none⟩ = some (.int .i64 r.head.sign) ∧ w'.cell? ⟨pr, 5, none⟩ = some (.slice a5 r.ents.length c5) ∧ w'.cell? ⟨pr, 6, none⟩ = some (.slice a6 r.proof.length c6)) := fun w' G' h => ⟨h.row.cell (i := 0) (by omega), h.row.cell (i := 1) (by omega), h.row.cell (i := 2) (by omega), h.row.cell (i := 3) (by omega), h.row.cell (i := 4) (by omega), h.row.cell (i := 5) (by omega), h.row.cell (i := 6) (by omega)⟩
          obtain ⟨y0, y1, y2, y3, y4, y5, y6⟩ := HCe.out _ _ HRo.out
          obtain ⟨E, HE⟩ : ∃ E : Nat, Hid (hearE key m r = E) := ⟨_, rfl⟩
          obtain ⟨M, HM⟩ : ∃ M : Mir, Hid (hearM key m r = M) := ⟨_, rfl⟩
          rw [HE.out, HM.out] at cH HCP
          rw [HM.out] at HOk2
          obtain ⟨qw, ⟨qs, qr, qt, qg⟩, qe, qp⟩ := r
          simp only [rv] at cH HCP y0 y1 y2 y3 y4 y5 y6 HCe
          clear HE HM
          generalize qe.length = ne at *
          generalize qp.length = np at *
          go_wp2_with fail
          refine cH.mono ?_
          rintro e w31 ⟨rfl, G1, hb1, hr1⟩
          have cP := HCP.out _ _ hb1 hr1
          obtain ⟨y0, y1, y2, y3, y4, y5, y6⟩ := HCe.out _ _ hr1
          clear cH hb1 hr1 HRo HB3
          go_wp2_with fail
          refine cP.mono ?_
          rintro e w32 ⟨rfl, G2, hb2, _⟩
          have HB5 : Hid (Both w w32 bx bm G2 key M M) := hb2
          have ee : ((E : Int) == (E : Int)) = true := by simp
          clear cP hb2 y0 y1 y2 y3 y4 y5 y6 HCP HCe
          go_wp2_with fail
          refine (HErr.out _ _ _ HB5.out.bel).mono ?_
          rintro e w33 ⟨rfl, b33⟩
          have HB6 : Hid (Both w w33 bx bm G2 key M M) := HB5.out.below b33
          clear b33 HB5
          obtain ⟨a1, c1, ⟨s1, s2, s3, s4, s5⟩, hwd⟩ := MirBoth.doc_cells HB6.out
          have HSS : Hid (∀ w', Below w33.heap.size w33 w' → (w'.cell? ⟨bm, 1, none⟩ = some (.slice a1 M.own.length c1) ∧ w'.cell? ⟨bm, 2, none⟩ = some (.int .i64 M.head.size) ∧ w'.cell? ⟨bm, 3, none⟩ = some (.int .i64 M.head.root) ∧ w'.cell? ⟨bm, 4, none⟩ = some (.int .i64 M.head.time) ∧ w'.cell? ⟨bm, 5, none⟩ = some (.int .i64 M.head.sign)) ∧ Wide 2 w' a1 M.own.length c1 (cells M.own)) := fun w' b' => ⟨⟨Lists.cell_below b' s1, Lists.cell_below b' s2, Lists.cell_below b' s3, Lists.cell_below b' s4, Lists.cell_below b' s5⟩, hwd.below b'⟩
          have HCE : Hid (∀ w', Below w33.heap.size w33 w' → Calls Tryz.prog 28 #[.pointer (some ⟨bx, 0, none⟩)] w' fun e w'' => ∃ v, e = .returned v ∧ w''.ownsRow w'.heap.size 108 2 v M.own.length (cells M.own) ∧ Below w'.heap.size w' w'') := fun w' b' => MirBoth.entries_prog (HB6.out.below b') HOk2.out
          have hfw := HOk2.out.few
          clear s1 s2 s3 s4 s5 hwd
          go_upto_region 25 with fail
          have s1 := (HSS.out _ (Below.refl _ w33).drew).1.1
          go_region_held3 (fun w' => w'.cell? ⟨bm, 1, none⟩ = some (.slice a1 M.own.length c1)) (first | exact s1 | go_keep)
            (first | (go_at_call 28; refine (HCE.out _ (Below.refl _ w33).drew).mono ?_; rintro e w34 ⟨v34, rfl, o34, b34⟩; obtain ⟨a34, c34, rfl, r34⟩ := owns_wide o34; have HB34 : Hid (Below w33.heap.size w33 w34) := bt (Below.refl _ w33).drew b34; have s1 := (HSS.out _ HB34.out).1.1; have cS := WalkEntsSame.entries_same M.own a34 a1 M.own.length c34 c1 w34 r34 (HSS.out _ HB34.out).2 (by omega); clear b34 o34 r34) | (go_at_call 27; refine cS.mono ?_; rintro e w35 ⟨rfl, b35⟩; have HB35 : Hid (Below w33.heap.size w33 w35) := bt HB34.out b35; have s1 := (HSS.out _ HB35.out).1.1; clear b35))
          clear cS HCE
          have HXW : Hid (∀ w', Below w33.heap.size w33 w' → Calls Tryz.prog 29 #[.pointer (some ⟨bx, 0, none⟩)] w' fun e w'' => e = .returned (wv M.want) ∧ Below w'.heap.size w' w'') := fun w' b' => MirBoth.want_prog (HB6.out.below b') HOk2.out
          have HDW : Hid (∀ w', Below w33.heap.size w33 w' → Calls Tryz.prog 24 #[.pointer (some ⟨bm, 0, none⟩)] w' fun e w'' => e = .returned (wv M.want) ∧ Below w'.heap.size w' w'') := fun w' b' => MirBoth.want_doc (HB6.out.below b') HOk2.out
          have HXS : Hid (∀ w', Below w33.heap.size w33 w' → Calls Tryz.prog 30 #[.pointer (some ⟨bx, 0, none⟩)] w' fun e w'' => e = .returned (.int .i64 (M.own.length : Nat)) ∧ Below w'.heap.size w' w'') := fun w' b' => MirBoth.size_prog (HB6.out.below b')
          have HXR : Hid (∀ w', Below w33.heap.size w33 w' → Calls Tryz.prog 31 #[.pointer (some ⟨bx, 0, none⟩)] w' fun e w'' => e = .returned (.int .i64 (rootE M.own)) ∧ Below w'.heap.size w' w'') := fun w' b' => MirBoth.root_prog (HB6.out.below b') HOk2.out
          have HDR : Hid (∀ w', Below w33.heap.size w33 w' → Calls Tryz.prog 32 #[.pointer (some ⟨bm, 0, none⟩)] w' fun e w'' => e = .returned (.int .i64 (rootE M.own)) ∧ Below w'.heap.size w' w'') := fun w' b' => MirBoth.root_doc (HB6.out.below b') HOk2.out
          have HXH : Hid (∀ w', Below w33.heap.size w33 w' → Calls Tryz.prog 33 #[.pointer (some ⟨bx, 0, none⟩)] w' fun e w'' => e = .returned (.agg #[.int .i64 M.head.size, .int .i64 M.head.root, .int .i64 M.head.time, .int .i64 M.head.sign]) ∧ Below w'.heap.size w' w'') := fun w' b' => MirBoth.head_prog (HB6.out.below b')
          simp only [wv] at HXW HDW
          have nw := MirBoth.want_neq M.want.what M.want.fr M.want.to_
          have nh := MirBoth.head_neq M.head.size M.head.root M.head.time M.head.sign
          have nn : ((M.own.length : Int) != (M.own.length : Int)) = false := by simp
          have nr : (rootE M.own != rootE M.own) = false := by simp
          have aH : ∀ w, (isAgg 60).run Tryz.prog w = .ok true w := fun w => by kernel_rfl
          have zH : ∀ w, (sizeOf 60).run Tryz.prog w = .ok 4 w := fun w => by kernel_rfl
          generalize M.want.what = ww at HXW HDW nw
          generalize M.want.fr = wf at HXW HDW nw
          generalize M.want.to_ = wt at HXW HDW nw
          generalize rootE M.own = RT at HXR HDR nr
          go_upto_region 26 with fail
          obtain ⟨s1, s2, s3, s4, s5⟩ := (HSS.out _ (bt HB35.out (Below.refl _ w35).drew)).1
          go_region_held3 (fun w' => w'.cell? ⟨bm, 1, none⟩ = some (.slice a1 M.own.length c1) ∧ w'.cell? ⟨bm, 2, none⟩ = some (.int .i64 M.head.size) ∧ w'.cell? ⟨bm, 3, none⟩ = some (.int .i64 M.head.root) ∧ w'.cell? ⟨bm, 4, none⟩ = some (.int .i64 M.head.time) ∧ w'.cell? ⟨bm, 5, none⟩ = some (.int .i64 M.head.sign)) (first | exact ⟨s1, s2, s3, s4, s5⟩ | go_keep)
            (first | (go_at_call 29; refine (HXW.out _ (bt HB35.out (Below.refl _ w35).drew)).mono ?_; rintro e w36 ⟨rfl, b36⟩; have HB36 : Hid (Below w33.heap.size w33 w36) := bt (bt HB35.out (Below.refl _ w35).drew) b36; obtain ⟨s1, s2, s3, s4, s5⟩ := (HSS.out _ HB36.out).1; clear b36) | (go_at_call 24; refine (HDW.out _ HB36.out).mono ?_; rintro e w37 ⟨rfl, b37⟩; have HB37 : Hid (Below w33.heap.size w33 w37) := bt HB36.out b37; obtain ⟨s1, s2, s3, s4, s5⟩ := (HSS.out _ HB37.out).1; clear b37) | (go_at_call 30; refine (HXS.out _ HB37.out).mono ?_; rintro e w38 ⟨rfl, b38⟩; have HB38 : Hid (Below w33.heap.size w33 w38) := bt HB37.out b38; obtain ⟨s1, s2, s3, s4, s5⟩ := (HSS.out _ HB38.out).1; clear b38) | (go_at_call 31; refine (HXR.out _ HB38.out).mono ?_; rintro e w39 ⟨rfl, b39⟩; have HB39 : Hid (Below w33.heap.size w33 w39) := bt HB38.out b39; obtain ⟨s1, s2, s3, s4, s5⟩ := (HSS.out _ HB39.out).1; clear b39) | (go_at_call 32; refine (HDR.out _ HB39.out).mono ?_; rintro e w40 ⟨rfl, b40⟩; have HB40 : Hid (Below w33.heap.size w33 w40) := bt HB39.out b40; obtain ⟨s1, s2, s3, s4, s5⟩ := (HSS.out _ HB40.out).1; clear b40) | (go_at_call 33; refine (HXH.out _ HB40.out).mono ?_; rintro e w41 ⟨rfl, b41⟩; have HB41 : Hid (Below w33.heap.size w33 w41) := bt HB40.out b41; obtain ⟨s1, s2, s3, s4, s5⟩ := (HSS.out _ HB41.out).1; clear b41))
          have HB7 : Hid (Both w w41 bx bm G2 key M M) := HB6.out.below HB41.out
          clear HXW HDW HXS HXR HDR HXH nw nh nn nr aH zH s1 s2 s3 s4 s5 HSS HB6
          go_wp2_with fail
          go_roundw
          case rel => exact ⟨i + 1, M, G2, by omega, by omega, by go_num, HB7, HOk2⟩
          case measure => simp [intOf]; omega

end Go.Proofs.YtncddfgclpdgfagGreatDoor.WalkMirrorPlays
