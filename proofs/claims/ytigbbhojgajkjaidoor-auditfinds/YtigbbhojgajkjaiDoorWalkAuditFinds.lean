/-
  The walk of AuditFinds: of all tiles of entries none is bad, with one sum changed just that tile is, and the head of the log is whole.
-/
import Derived.Test.YtigbbhojgajkjaiDoorWalkAu
import Derived.Test.YtigbbhojgajkjaiDoorSePlain
import Derived.Test.YtigbbhojgajkjaiDoorWalkHdSign
import Derived.Test.YtigbbhojgajkjaiDoorEntAll
import Derived.Test.YtigbbhojgajkjaiDoorWalkCheck
import Derived.Test.YtigbbhojgajkjaiDoorTilePlain
import Derived.Maps.AppendAt
import Derived.Deep.DeepMust
import Derived.Deep.CutBlock
namespace Go.Proofs.YtigbbhojgajkjaiDoor.WalkAuditFinds
open Go.RowKit
open Lists (Row ints bt)
open Keeps (Kept owns_kept owns_open owns_set)
open Wides (Wide)
open Entries (Entry entsE leafsOf leafsV)
open Heads (Head isKey signE signV verifyE)
open HeadVals (hv aggH sizeH At)
open Mirrors (rootE)
open Errs (errv errv0 errv_pos)
open SumRows (Rs)
open IntRows (Rowss)
open Tiles (Tile tiles sumsOf)
open Audits (tilesL want badE badT wholeE)

theorem two_ents (w : World) (t : TypeId) (a b : ByteArray) : Wide 2 (w.alloc (.cells #[.int .i64 0, .string a, .int .i64 0, .string b] t)) (some ⟨w.heap.size, 0, none⟩) 2 2 (EntRows.cells [(0, a), (0, b)]) := by
  refine ⟨rfl, Nat.le_refl _, fun _ => ⟨_, _, rfl, fun j u hj => ?_⟩⟩
  match j, hj with
  | 0, h | 1, h | 2, h | 3, h => rw [← h]; simp [EntRows.cells]
  | j + 4, h => simp [EntRows.cells] at h
theorem leafs_fine {l : List Entry} (hf : entsE l = 0) : Trees.leafsE (leafsOf l) = 0 := by
  unfold Trees.leafsE
  rw [if_neg (by have := (Entries.ents_ok hf).1; simp only [leafsOf, List.length_map]; omega)]
  exact if_pos (List.all_eq_true.2 (GrowRight.leafs_valid l))
theorem sign_ok {h : Head} {key : Int} (h0 : signE h key = 0) : verifyE (signV h key) key = 0 ∧ signV h key = ⟨h.size, h.root, h.time, Heads.signOf h key⟩ := by
  have hv : signV h key = ⟨h.size, h.root, h.time, Heads.signOf h key⟩ := if_pos h0
  refine ⟨?_, hv⟩
  unfold Heads.signE at h0
  split at h0
  · rename_i h1
    obtain ⟨k1, k2⟩ := Heads.ok_iff.1 h1.2
    unfold Heads.verifyE
    rw [hv, if_pos ⟨h1.1, Heads.ok_iff.2 ⟨k1, k2.1, Heads.signOf_valid h key⟩⟩]
    exact if_pos rfl
  · cases h0
theorem sign_zero {l : List Entry} (hf : entsE l = 0) {key : Int} (hk : isKey key = true) : signE ⟨(l.length : Int), rootE l, 0, 0⟩ key = 0 := by
  have h5 := (Entries.ents_ok hf).1
  have hb : Heads.ok (Answers.bare l 0) = true := Heads.ok_iff.2 ⟨⟨by show (0 : Int) ≤ (l.length : Int); omega, by show (l.length : Int) ≤ 200; omega, by show (0 : Int) ≤ 0; decide, by show (0 : Int) ≤ 1000000; decide⟩, Serves.root_valid l, by show Nums.valid 0 = true; decide⟩
  exact if_pos ⟨hk, hb⟩
/-- each is a slice -/
theorem rs_one {B : Nat} {w : World} {v : Value} {vs : List Value} {ls : List (List Int)} (h : Rs B w v vs ls) : ∀ u ∈ vs, u.oneCell' = true := by
  intro u hu
  obtain ⟨i, hi, rfl⟩ := List.mem_iff_getElem.1 hu
  have hl := h.length
  obtain ⟨x, c, h1, _⟩ := h.each i _ (List.getElem?_eq_getElem (by omega))
  rw [List.getElem?_eq_getElem hi] at h1
  rw [Option.some.inj h1]
  rfl
/-- a row of slices of the call's own, as it is handed on -/
theorem rowss_of {B : Nat} {w : World} {g M c : Nat} {us : List Value} {ls : List (List Int)} (hM : 0 < M) (hl : ls.length = M) (own : w.ownsRow B 30 1 (.slice (some ⟨g, 0, none⟩) M c) M us)
    (each : ∀ (i : Nat) (l : List Int), ls[i]? = some l → ∃ a c, us[i]? = some (Value.slice a l.length c) ∧ Row w a l.length c (ints l)) : Rowss w (some ⟨g, 0, none⟩) M c ls := by
  have hr := (Lists.Row.of_owns own).2
  refine ⟨hl, hr.2.1, fun _ => ?_⟩
  obtain ⟨b, off, e, hc⟩ := hr.2.2 hM
  refine ⟨b, off, e, fun i l hi => ?_⟩
  obtain ⟨x, y, h1, h2⟩ := each i l hi
  exact ⟨x, y, hc i _ h1, h2⟩
theorem add_is (g i : Nat) : (⟨g, 0, none⟩ : Addr).add i = ⟨g, i, none⟩ := by unfold Addr.add; split <;> simp_all
theorem infoI : (Tryd.prog.info? 3).map (fun i => (i.zero, i.size, i.bytes)) = some (some (.int .i64 0), 1, 8) := by kernel_rfl
/-- both copies changed: what is handed on -/
theorem changed {B C M L k j c1 c2 g1 g2 : Nat} {w0 wm : World} {x : Option Addr} {y : Nat} {vs : List Value} {ls : List (List Int)} {q : List Int} (T : Int) (hs : ∀ w', Below w0.heap.size w0 w' → Rs B w' (.slice x M y) vs ls) (hM : ls.length = M) (hL : q.length = L) (hk : k < M) (hC : w0.heap.size ≤ C)
    (hb : Below w0.heap.size w0 wm) (o1 : wm.ownsRow C 30 1 (.slice (some ⟨g1, 0, none⟩) M c1) M vs) (o2 : wm.ownsRow C 3 1 (.slice (some ⟨g2, 0, none⟩) L c2) L (ints q)) :
    (wm.setCell ⟨g2, j, none⟩ (.int .i64 T)).cell? ⟨g1, k, none⟩ = vs[k]? ∧ (wm.setCell ⟨g2, j, none⟩ (.int .i64 T)).frozen? ⟨g1, k, none⟩ = false ∧
    Below w0.heap.size w0 ((wm.setCell ⟨g2, j, none⟩ (.int .i64 T)).setCell ⟨g1, k, none⟩ (.slice (some ⟨g2, 0, none⟩) L c2)) ∧
    Rowss ((wm.setCell ⟨g2, j, none⟩ (.int .i64 T)).setCell ⟨g1, k, none⟩ (.slice (some ⟨g2, 0, none⟩) L c2)) (some ⟨g1, 0, none⟩) M c1 (ls.set k (q.set j T)) := by
  have hne : g1 ≠ g2 := fun e => SumRows.own_apart o1 o2 (by decide) g1 rfl (by rw [e]; rfl)
  have l1 := (o1.lt g1 rfl).1
  have l2 := (o2.lt g2 rfl).1
  have k1 : Kept (fun i => i = g2) wm (wm.setCell ⟨g2, j, none⟩ (.int .i64 T)) := (Kept.refl (fun i => i = g2) wm).setCell (p := ⟨g2, j, none⟩) (.inl rfl) _
  have o1' := owns_kept o1 k1 fun i hi e => by
    obtain rfl : g1 = i := by simpa [Value.ownBlock] using hi
    exact hne e
  have o2' := owns_set o2 j (.int .i64 T)
  have k2 : Kept (fun i => i = g1) (wm.setCell ⟨g2, j, none⟩ (.int .i64 T)) ((wm.setCell ⟨g2, j, none⟩ (.int .i64 T)).setCell ⟨g1, k, none⟩ (.slice (some ⟨g2, 0, none⟩) L c2)) := (Kept.refl (fun i => i = g1) _).setCell (p := ⟨g1, k, none⟩) (.inl rfl) _
  have o1'' := owns_set o1' k (.slice (some ⟨g2, 0, none⟩) L c2)
  have o2'' := owns_kept o2' k2 fun i hi e => by
    obtain rfl : g2 = i := by simpa [Value.ownBlock] using hi
    exact hne e.symm
  have hb2 : Below w0.heap.size w0 ((wm.setCell ⟨g2, j, none⟩ (.int .i64 T)).setCell ⟨g1, k, none⟩ (.slice (some ⟨g2, 0, none⟩) L c2)) := (hb.setCell (by show w0.heap.size ≤ g2; omega) _).setCell (by show w0.heap.size ≤ g1; omega) _
  have hvl : vs.length = M := by have := o1.1; omega
  obtain ⟨g', c', h1, _, _, _, _, _, hc, hf⟩ := owns_open o1' (by omega)
  obtain rfl : g1 = g' := by simp at h1; exact h1.1
  refine ⟨by rw [List.getElem?_eq_getElem (by omega)]; exact hc k _ (List.getElem?_eq_getElem (by omega)), hf k, hb2, ?_⟩
  refine rowss_of (by omega) (by rw [List.length_set]; exact hM) o1'' fun i l hi => ?_
  by_cases e : k = i
  · subst e
    rw [List.getElem?_set_self (by omega)] at hi
    obtain rfl := Option.some.inj hi
    refine ⟨some ⟨g2, 0, none⟩, c2, ?_, ?_⟩
    · rw [List.getElem?_set_self (by omega), List.length_set, hL]
    · rw [List.length_set, hL]
      have h := (Lists.Row.of_owns o2'').2
      have e : ints (q.set j T) = (ints q).set j (.int .i64 T) := by
        unfold Lists.ints
        rw [List.map_set]
      rw [e]
      exact h
  · rw [List.getElem?_set_ne e] at hi
    obtain ⟨a', c', h1, h2⟩ := (hs _ hb2).each i l hi
    exact ⟨a', c', by rw [List.getElem?_set_ne e]; exact h1, (Lists.Row.of_owns h2).2⟩
theorem one_tile {l : List Entry} {k : Nat} (hk : k < (want l).length) (hf : entsE l = 0) : ∃ t : Tile, (tiles l.length)[k]? = some t ∧ (want l)[k]? = some (sumsOf (leafsOf l) t) ∧ t.2.2 ≤ 4 := by
  rw [Audits.want_length] at hk
  refine ⟨(tiles l.length)[k], List.getElem?_eq_getElem hk, ?_, (Tiles.tiles_le (Entries.ents_ok hf).1 _ (List.getElem_mem hk)).2.2.2⟩
  rw [Audits.want_at, List.getElem?_eq_getElem hk]
  rfl

set_option maxHeartbeats 16000000 in
set_option maxRecDepth 100000 in
theorem walk (a : Option Addr) (n cap : Nat) (l : List Entry) (_ : l.length * 24 ≤ 140737488351232) (hw : ∀ x ∈ l, (Lit.int .i64 x.1).wf = true ∧ x.2.size ≤ maxLen)
    (key : Int) (_ : (Lit.int .i64 key).wf = true) (A : Int) (_ : (Lit.int .i64 A).wf = true) (I : Int) (_ : (Lit.int .i64 I).wf = true) (T : Int) (_ : (Lit.int .i64 T).wf = true)
    (w : World) (r : Wide 2 w a n cap (EntRows.cells l)) (hK : WalkHdLib.Tabs w) :
    Calls Tryd.prog 3 #[.slice a n cap, .int .i64 key, .int .i64 A, .int .i64 I, .int .i64 T] w fun e w' => e = .returned (.bool true) ∧ Below w.heap.size w w' := by
  have hln := EntRows.len_of r
  have HT : Hid (∀ w', Below w.heap.size w w' → WalkHdLib.Tabs w') := fun w' b => hK.below b
  have HR : Hid (∀ w', Below w.heap.size w w' → Wide 2 w' a n cap (EntRows.cells l)) := fun w' b => r.below b
  have HZ : Hid (∀ e ∈ l, e.2.size ≤ maxLen) := fun e he => (hw e he).2
  have aH := aggH
  have zH := sizeH
  have H2 : Hid (∀ a c w', Wide 2 w' a 2 c (EntRows.cells [(0, ⟨#[97]⟩), (0, ⟨#[98]⟩)]) → Calls Tryd.prog 4 #[.slice a 2 c] w' fun e w'' => ∃ b off y ai ci, e = .returned (.tuple #[.slice (some ⟨b, off, none⟩) 1 y, .nilIface]) ∧ w''.cell? ⟨b, off, none⟩ = some (.slice ai 2 ci) ∧ Below w'.heap.size w' w'') := fun a c w' r => by
    have h := WalkAu.tiles_any [(0, ⟨#[97]⟩), (0, ⟨#[98]⟩)] a 2 c w' r (fun e he => by simp at he; rcases he with rfl | rfl <;> decide)
    have e0 : entsE [((0 : Int), (⟨#[97]⟩ : ByteArray)), (0, ⟨#[98]⟩)] = 0 := by decide
    rw [e0, errv0, show tilesL [((0 : Int), (⟨#[97]⟩ : ByteArray)), (0, ⟨#[98]⟩)] = want [(0, ⟨#[97]⟩), (0, ⟨#[98]⟩)] from if_pos e0] at h
    refine h.mono ?_
    rintro e w'' ⟨v, vs, rfl, hrs, b⟩
    obtain ⟨x, y, rfl, hrow⟩ := hrs.rows
    have hl1 : (want [((0 : Int), (⟨#[97]⟩ : ByteArray)), (0, ⟨#[98]⟩)]).length = 1 := by rw [Audits.want_length]; decide
    rw [hl1] at hrow ⊢
    obtain ⟨bk, off, rfl, hc⟩ := hrow.2.2 (by decide)
    obtain ⟨ai, ci, c1, _⟩ := hc 0 (sumsOf (leafsOf [((0 : Int), (⟨#[97]⟩ : ByteArray)), (0, ⟨#[98]⟩)]) (0, 0, 2)) (by rw [Audits.want_at]; rfl)
    rw [Tiles.sumsOf_length] at c1
    exact ⟨bk, off, y, ai, ci, rfl, c1, b⟩
  clear hK r hw
  go_enter Tryd.func3, Tryd.ntmps3
  go_wp2_with fail
  refine (H2.out _ _ _ (two_ents w _ _ _)).mono ?_
  rintro e w1 ⟨bk, off, y1, ai, ci, rfl, hc1, b1⟩
  have HB1 : Hid (Below w.heap.size w w1) := bt ((Below.refl _ _).alloc (Nat.le_refl _) _) b1
  clear b1 H2
  have cT := WalkAu.tiles_any l a n cap w1 (HR.out w1 HB1.out) HZ.out
  go_wp2_with fail
  refine cT.mono ?_
  rintro e w2 ⟨v, vs, rfl, hrs, b2⟩
  have HB2 : Hid (Below w.heap.size w w2) := bt HB1.out b2
  clear cT b2 hc1
  by_cases hE : entsE l = 0
  rotate_left
  · rw [errv_pos _ hE]
    clear hE hrs
    go_wp2_with fail
    go_ret
    exact ⟨rfl, HB2.out⟩
  rw [show tilesL l = want l from if_pos hE] at hrs
  rw [hE, errv0]
  have HEn : Hid (entsE l = 0) := hE
  obtain ⟨M, HM⟩ : ∃ M, Hid ((want l).length = M) := ⟨_, rfl⟩
  have hM200 : M ≤ 200 := by
    rw [← HM.out, Audits.want_length]
    exact Tiles.upto_length l.length 4 (by omega) (Entries.ents_ok hE).1
  obtain ⟨x, y, rfl, hrow⟩ := hrs.rows
  rw [HM.out] at hrs hrow ⊢
  have HRs : Hid (∀ w', Below w2.heap.size w2 w' → Rs w1.heap.size w' (.slice x M y) vs (want l)) := fun w' b => hrs.below b
  have HRw : Hid (∀ w', Below w2.heap.size w2 w' → Rowss w' x M y (want l)) := fun w' b => hrow.below b
  have HB : Hid (∀ w', Below w2.heap.size w2 w' → Below w.heap.size w w') := fun w' b => bt HB2.out b
  have HQ4 : Hid (∀ q ∈ want l, q.length ≤ 4) := fun q hq => by
    obtain ⟨i, hi, rfl⟩ := List.mem_iff_getElem.1 hq
    obtain ⟨t, t1, t2, t3⟩ := one_tile (l := l) hi HEn.out
    rw [List.getElem?_eq_getElem hi] at t2
    rw [Option.some.inj t2, Tiles.sumsOf_length]
    exact t3
  have HBd : Hid (∀ w', Below w2.heap.size w2 w' → Calls Tryd.prog 5 #[.slice a n cap, .slice x M y] w' fun e w'' => ∃ a' c', e = .returned (.tuple #[.slice a' 0 c', .nilIface]) ∧ Below w'.heap.size w' w'') := fun w' b => by
    obtain ⟨g1, g2⟩ := Audits.none_bad HEn.out
    have h := WalkAu.bad_any l a n cap (want l) x M y w' (HR.out w' (HB.out w' b)) HZ.out (HRw.out w' b) (by omega)
    rw [g1, g2, errv0] at h
    refine h.mono ?_
    rintro e w'' ⟨v', rfl, o', b'⟩
    obtain ⟨a', c', rfl, _⟩ := Wides.owns_wide o'
    exact ⟨a', c', rfl, b'⟩
  have hLf : leafsV l = leafsOf l := if_pos hE
  have HLf : Hid (∀ w', Below w2.heap.size w2 w' → Calls Tryd.prog 6 #[.slice a n cap] w' fun e w'' => ∃ a' c', e = .returned (.tuple #[.slice a' n c', .nilIface]) ∧ Row w'' a' n c' (ints (leafsOf l)) ∧ Below w'.heap.size w' w'') := fun w' b => by
    have h := WalkEnt.leafs_any l a n cap w' (HR.out w' (HB.out w' b)) HZ.out
    rw [hLf, Serves.leafs_len, hln, HEn.out, errv0] at h
    refine h.mono ?_
    rintro e w'' ⟨v', rfl, o', b'⟩
    obtain ⟨a', c', rfl, r', _⟩ := Keeps.owns_row o'
    exact ⟨a', c', rfl, r', b'⟩
  have HRt : Hid (∀ a' c' w', Row w' a' n c' (ints (leafsOf l)) → Calls Tryd.prog 7 #[.slice a' n c'] w' fun e w'' => e = .returned (.tuple #[.int .i64 (rootE l), .nilIface]) ∧ Below w'.heap.size w' w'') := fun a' c' w' r' => by
    have h := WalkCheck.root_any (leafsOf l) a' n c' w' r'
    rw [leafs_fine HEn.out, WalkCheck.errv0, show Trees.rootV (leafsOf l) = rootE l from if_pos (leafs_fine HEn.out)] at h
    exact h
  have HSg : Hid (isKey key = true → ∀ w', Below w2.heap.size w2 w' → Calls Tryd.prog 8 #[.agg #[.int .i64 (n : Int), .int .i64 (rootE l), .int .i64 0, .int .i64 0], .int .i64 key] w' fun e w'' => e = .returned (.tuple #[hv (signV ⟨(l.length : Int), rootE l, 0, 0⟩ key), .nilIface]) ∧ Below w'.heap.size w' w'') := fun hk w' b => by
    have h := WalkHdSign.sign_any ⟨(l.length : Int), rootE l, 0, 0⟩ key w' (HT.out w' (HB.out w' b))
    rw [sign_zero HEn.out hk, errv0] at h
    unfold hv at h ⊢
    simp only [hln] at h ⊢
    exact h
  have HWh : Hid (isKey key = true → ∀ w', Below w2.heap.size w2 w' → Calls Tryd.prog 9 #[.slice a n cap, hv (signV ⟨(l.length : Int), rootE l, 0, 0⟩ key), .int .i64 key] w' fun e w'' => e = .returned .nilIface ∧ Below w'.heap.size w' w'') := fun hk w' b => by
    have h := WalkAu.whole_any l a n cap (signV ⟨(l.length : Int), rootE l, 0, 0⟩ key) key w' (HR.out w' (HB.out w' b)) HZ.out (HT.out w' (HB.out w' b))
    obtain ⟨s1, s2⟩ := sign_ok (sign_zero (l := l) HEn.out hk)
    rw [Audits.whole_of s1 HEn.out (by rw [s2]) (by rw [s2]), errv0] at h
    exact h
  generalize signV ⟨(l.length : Int), rootE l, 0, 0⟩ key = X at HSg HWh
  obtain ⟨x0, x1, x2, x3⟩ := X
  unfold hv at HSg HWh
  simp only at HSg HWh
  generalize rootE l = RL at HRt HSg
  clear hE hrs hrow hLf
  go_wp2_with fail
  refine (HBd.out w2 (Below.refl _ _)).mono ?_
  rintro e w3 ⟨a3, c3, rfl, b3⟩
  have HB3 : Hid (Below w2.heap.size w2 w3) := b3
  clear b3 HBd
  go_wp2_with fail
  refine (HLf.out w3 HB3.out).mono ?_
  rintro e w4 ⟨a4, c4, rfl, r4, b4⟩
  have HB4 : Hid (Below w2.heap.size w2 w4) := bt HB3.out b4
  have cR := HRt.out a4 c4 w4 r4
  clear b4 r4 HLf HRt HB3
  go_wp2_with fail
  refine cR.mono ?_
  rintro e w5 ⟨rfl, b5⟩
  have HB5 : Hid (Below w2.heap.size w2 w5) := bt HB4.out b5
  clear b5 cR HB4
  go_upto_region 14 with fail
  go_cut [88] from 83 to 87 (fun v we => v = .bool (isKey key) ∧ we = w5)
  case first => as_aux_lemma =>
    by_cases g1 : key ≥ 1
    · by_cases g2 : key ≤ 1000000
      · have HV : Hid (isKey key = true) := decide_eq_true ⟨g1, g2⟩
        go_wp2_with fail
        go_meet
        case rel => exact ⟨by rw [HV.out], rfl⟩
      · have HV : Hid (isKey key = false) := decide_eq_false fun q => g2 q.2
        go_wp2_with fail
        go_meet
        case rel => exact ⟨by rw [HV.out], rfl⟩
    · have HV : Hid (isKey key = false) := decide_eq_false fun q => g1 q.1
      go_wp2_with fail
      go_meet
      case rel => exact ⟨by rw [HV.out], rfl⟩
  obtain ⟨rfl, rfl⟩ := hcut
  go_upto_if 88 with fail
  go_cut [21, 22] from 88 to 106 (fun _ _ we => Hid (Below w2.heap.size w2 we))
  case first => as_aux_lemma =>
    cases hk : isKey key with
    | false =>
      go_wp2_with fail
      go_meet
      case rel => exact HB5
    | true =>
      have cS := HSg.out hk _ HB5.out
      have HW2 := HWh.out hk
      clear hk
      go_wp2_with fail
      refine cS.mono ?_
      rintro e w6 ⟨rfl, b6⟩
      go_upto_region 16 with fail
      have HB6 : Hid (Below w2.heap.size w2 (w6.alloc (.cells #[.int .i64 x0, .int .i64 x1, .int .i64 x2, .int .i64 x3] 39))) := bt HB5.out (b6.alloc b6.size _)
      have HA6 : At (w6.alloc (.cells #[.int .i64 x0, .int .i64 x1, .int .i64 x2, .int .i64 x3] 39)) w6.heap.size ⟨x0, x1, x2, x3⟩ := At.new w6 x0 x1 x2 x3
      generalize w6.alloc (.cells #[.int .i64 x0, .int .i64 x1, .int .i64 x2, .int .i64 x3] 39) = w7 at HB6 HA6 ⊢
      generalize w6.heap.size = gh at HA6 ⊢
      obtain ⟨p0, p1, p2, p3⟩ := HA6
      simp only at p0 p1 p2 p3
      clear b6 cS
      go_wp2_with fail
      refine (HW2 w7 HB6.out).mono ?_
      rintro e w8 ⟨rfl, b8⟩
      have HB8 : Hid (Below w2.heap.size w2 w8) := bt HB6.out b8
      clear b8 p0 p1 p2 p3 HW2
      go_wp2_with fail
      go_meet
      case rel => exact HB8
  have HBc : Hid (Below w2.heap.size w2 wc) := hcut
  clear HSg HWh HB5
  by_cases hA0 : A < 0
  · have HBe := HB.out _ HBc.out
    go_wp2_with fail
    go_ret
    exact ⟨rfl, HBe⟩
  by_cases hA1 : A ≥ (M : Int)
  · have HBe := HB.out _ HBc.out
    go_wp2_with fail
    go_ret
    exact ⟨rfl, HBe⟩
  by_cases hI0 : I < 0
  · have HBe := HB.out _ HBc.out
    go_wp2_with fail
    go_ret
    exact ⟨rfl, HBe⟩
  obtain ⟨k, rfl⟩ := Int.eq_ofNat_of_zero_le (show 0 ≤ A by omega)
  obtain ⟨j, rfl⟩ := Int.eq_ofNat_of_zero_le (show 0 ≤ I by omega)
  have hkM : k < M := by omega
  have iA : (k : Int) < (M : Int) := by omega
  obtain ⟨t, ht1, ht2, ht4⟩ := one_tile (l := l) (k := k) (by rw [HM.out]; exact hkM) HEn.out
  obtain ⟨q, HQe⟩ : ∃ q, Hid (sumsOf (leafsOf l) t = q) := ⟨_, rfl⟩
  rw [HQe.out] at ht2
  have HQl : Hid (q.length = t.2.2) := by show q.length = _; rw [← HQe.out]; exact Tiles.sumsOf_length _ _
  obtain ⟨L, HLe⟩ : ∃ L, Hid (q.length = L) := ⟨_, rfl⟩
  have hL4 : L ≤ 4 := by rw [← HLe.out, HQl.out]; exact ht4
  obtain ⟨gx, yx, hvx, -, -, -, -, -, -, -⟩ := owns_open (HRs.out wc HBc.out).own (by rw [HM.out]; omega)
  rw [HM.out] at hvx
  obtain ⟨rfl, rfl⟩ : x = some ⟨gx, 0, none⟩ ∧ y = yx := by simpa using hvx
  clear hvx
  obtain ⟨ai, ci2, hvs, -⟩ := (HRs.out wc HBc.out).each k q ht2
  rw [HLe.out] at hvs
  have HCx : Hid (∀ w', Below w2.heap.size w2 w' → w'.cell? ⟨gx, k, none⟩ = some (.slice ai L ci2)) := fun w' b => by
    obtain ⟨g', y', h1, _, _, _, _, _, h2, _⟩ := owns_open (HRs.out w' b).own (by rw [HM.out]; omega)
    obtain rfl : gx = g' := by simp at h1; exact h1.1
    exact h2 k _ hvs
  have HIn : Hid (∀ w', Below w2.heap.size w2 w' → w'.ownsRow w1.heap.size 3 1 (.slice ai L ci2) L (ints q)) := fun w' b => by
    obtain ⟨a', c', h1, h2⟩ := (HRs.out w' b).each k q ht2
    rw [HLe.out] at h1 h2
    rw [hvs] at h1
    simp only [Option.some.injEq, Value.slice.injEq, true_and] at h1
    obtain ⟨rfl, rfl⟩ := h1
    exact h2
  have cx := HCx.out wc HBc.out
  by_cases hI1 : (j : Int) ≥ (L : Int)
  · have HBe := HB.out _ HBc.out
    go_wp2_with fail
    go_ret
    exact ⟨rfl, HBe⟩
  have hjL : j < L := by omega
  have iI : (j : Int) < (L : Int) := by omega
  obtain ⟨gi, ci3, hvi, -, -, -, -, -, -, -⟩ := owns_open (HIn.out wc HBc.out) (by omega)
  obtain ⟨rfl, rfl⟩ : ai = some ⟨gi, 0, none⟩ ∧ ci2 = ci3 := by simpa using hvi
  clear hvi
  obtain ⟨z, hz⟩ : ∃ z, q[j]? = some z := ⟨q[j]'(by rw [HLe.out]; exact hjL), List.getElem?_eq_getElem _⟩
  have HCi : Hid (∀ w', Below w2.heap.size w2 w' → ∀ i u, (ints q)[i]? = some u → w'.cell? ⟨gi, i, none⟩ = some u) := fun w' b => by
    obtain ⟨g', y', h1, _, _, _, _, _, h2, _⟩ := owns_open (HIn.out w' b) (by omega)
    obtain rfl : gi = g' := by simp at h1; exact h1.1
    exact h2
  have cz := HCi.out wc HBc.out j (.int .i64 z) (by rw [Lists.ints, List.getElem?_map, hz]; rfl)
  by_cases hT : z = T
  · have eT : (z == T) = true := by simpa using hT
    have HBe := HB.out _ HBc.out
    go_wp2_with fail
    go_ret
    exact ⟨rfl, HBe⟩
  have eT : (z == T) = false := by simpa using hT
  have HNe : Hid (q.set j T ≠ sumsOf (leafsOf l) t) := fun e => by
    rw [HQe.out] at e
    have h : (q.set j T)[j]? = q[j]? := by rw [e]
    rw [List.getElem?_set_self (by rw [HLe.out]; exact hjL), hz] at h
    exact hT (Option.some.inj h).symm
  have HBl : Hid (vs.length = M) := by show vs.length = M; rw [(HRs.out wc HBc.out).length, HM.out]
  obtain ⟨r0, hr0, hr1, hr2, hr3⟩ := info_parts SumRows.infoR
  obtain ⟨i0, hi0, hi1, hi2, hi3⟩ := info_parts infoI
  have HNw : Hid (∀ i u, vs[i]? = some u → wc.cell? ((⟨gx, 0, none⟩ : Addr).add i) = some u) := fun i u hu => by
    obtain ⟨g', y', h1, _, _, _, _, _, h2, _⟩ := owns_open (HRs.out wc HBc.out).own (by rw [HM.out]; omega)
    obtain rfl : gx = g' := by simp at h1; exact h1.1
    rw [add_is]
    exact h2 i u hu
  have HOne : Hid (∀ u ∈ vs, u.oneCell' = true) := rs_one (HRs.out wc HBc.out)
  go_upto_region 22 with (at_builtin; go_must (refine wpList_append_own_at _ rfl (.tmp 139) (.tmp 140) 23 rfl wc.heap.size 30 r0 (.slice none 0 0) 1 24 Tryd.underlying23 hr0 hr1 hr2 hr3 rfl (by decide) (.slice none 0 0) 0 [] rfl (World.ownsRow_nil _ _ _ _) ⟨gx, 0, none⟩ M y vs rfl (by have := HBl.out; omega) HNw.out HOne.out (by unfold maxLen; omega) (by omega) (Nat.le_refl _) ?_); intro v1 wn o1 g1 z1 at1; clear z1 at1)
  have HBn : Hid (Below w2.heap.size w2 wn) := HBc.out.grown g1 HBc.out.size (fun k hk => by simp [Value.ownBlock] at hk)
  have HCn : Hid (Below wc.heap.size wc wn) := (Below.refl _ _).grown g1 (Nat.le_refl _) (fun k hk => by simp [Value.ownBlock] at hk)
  rw [Nat.zero_add, List.nil_append] at o1
  have HO1 : Hid (wn.ownsRow wc.heap.size 30 1 v1 M vs) := o1
  clear o1 g1 cx cz
  have cx := HCx.out wn HBn.out
  have HNi : Hid (∀ i u, (ints q)[i]? = some u → wn.cell? ((⟨gi, 0, none⟩ : Addr).add i) = some u) := fun i u hu => by rw [add_is]; exact HCi.out wn HBn.out i u hu
  have HIl : Hid ((ints q).length = L) := by show (ints q).length = L; rw [Lists.ints_length, HLe.out]
  have HSn : Hid (wc.heap.size ≤ wn.heap.size) := HCn.out.size
  go_upto_region 24 with (at_builtin; go_must (refine wpList_append_own_at _ rfl (.tmp 142) (.tmp 146) 30 rfl wc.heap.size 3 i0 (.int .i64 0) 1 8 Tryd.underlying30 hi0 hi1 hi2 hi3 rfl (by decide) (.slice none 0 0) 0 [] rfl (World.ownsRow_nil _ _ _ _) ⟨gi, 0, none⟩ L ci2 (ints q) rfl (by have := HIl.out; omega) HNi.out (fun u hu => by simp only [Lists.ints, List.mem_map] at hu; obtain ⟨_, _, rfl⟩ := hu; rfl) (by unfold maxLen; omega) (by omega) HSn.out ?_); intro v2 wm o2 g2 z2 at2; clear z2 at2)
  have HBm : Hid (Below w2.heap.size w2 wm) := HBn.out.grown g2 HBn.out.size (fun k hk => by simp [Value.ownBlock] at hk)
  rw [Nat.zero_add, List.nil_append] at o2
  have HO2 : Hid (wm.ownsRow wc.heap.size 3 1 v2 L (ints q)) := o2
  have HO1m : Hid (wm.ownsRow wc.heap.size 30 1 v1 M vs) := owns_kept HO1.out ((Kept.refl (fun _ => False) _).grown g2 (fun k hk => by simp [Value.ownBlock] at hk)) (fun _ _ h => h)
  clear o2 g2 cx HO1 HNi HNw
  obtain ⟨gb, cb, rfl, -, -, -, -, -, hcb, hfb⟩ := owns_open HO2.out (by omega)
  obtain ⟨gc, cc, rfl, -, -, -, -, -, -, -⟩ := owns_open HO1m.out (by omega)
  have cb0 := hcb j (.int .i64 z) (by rw [Lists.ints, List.getElem?_map, hz]; rfl)
  have fb0 := hfb j
  obtain ⟨cg, fg, hbl, hrw⟩ := changed (k := k) (j := j) T HRs.out HM.out HLe.out hkM HBc.out.size HBm.out HO1m.out HO2.out
  rw [hvs] at cg
  have HBf : Hid (Below w2.heap.size w2 ((wm.setCell ⟨gb, j, none⟩ (.int .i64 T)).setCell ⟨gc, k, none⟩ (.slice (some ⟨gb, 0, none⟩) L cb))) := hbl
  have HRf : Hid (Rowss ((wm.setCell ⟨gb, j, none⟩ (.int .i64 T)).setCell ⟨gc, k, none⟩ (.slice (some ⟨gb, 0, none⟩) L cb)) (some ⟨gc, 0, none⟩) M cc ((want l).set k (q.set j T))) := hrw
  clear hcb hfb hbl hrw
  go_upto_region 25 with fail
  generalize wm.setCell ⟨gb, j, none⟩ (.int .i64 T) = wp at HBf HRf cg fg ⊢
  clear cb0 fb0 HO2 HO1m HBm
  go_upto_region 26 with fail
  generalize wp.setCell ⟨gc, k, none⟩ (.slice (some ⟨gb, 0, none⟩) L cb) = wq at HBf HRf ⊢
  clear cg fg
  have HBd : Hid (Calls Tryd.prog 5 #[.slice a n cap, .slice (some ⟨gc, 0, none⟩) M cc] wq fun e w'' => ∃ g' f' c', e = .returned (.tuple #[.slice (some ⟨g', f', none⟩) 1 c', .nilIface]) ∧ w''.cell? ⟨g', f' + 2, none⟩ = some (.int .i64 (L : Int)) ∧ Below wq.heap.size wq w'') := by
    obtain ⟨g1, g2⟩ := Audits.one_bad HEn.out ht1 HNe.out
    have h := WalkAu.bad_any l a n cap ((want l).set k (q.set j T)) (some ⟨gc, 0, none⟩) M cc wq (HR.out _ (HB.out _ HBf.out)) HZ.out HRf.out (by omega)
    rw [g1, g2, errv0] at h
    refine h.mono ?_
    rintro e w'' ⟨v', rfl, o', b'⟩
    obtain ⟨a', c', rfl, r'⟩ := Wides.owns_wide o'
    obtain ⟨g', f', rfl, _⟩ := r'.2.2 (by simp)
    obtain ⟨_, _, q3⟩ := TileRows.at_three r' 0 (by simp)
    refine ⟨g', f', c', rfl, ?_, b'⟩
    have e3 : t.2.2 = L := by rw [← HQl.out, HLe.out]
    simpa [e3] using q3
  have eL : ((L : Int) == (L : Int)) = true := by simp
  clear HRf HNe HCx HIn HCi hvs hz ht1 ht2
  go_wp2_with fail
  refine HBd.out.mono ?_
  rintro e wz ⟨g', f', c', rfl, cw, bz⟩
  have HBz : Hid (Below w.heap.size w wz) := bt (HB.out _ HBf.out) bz
  clear bz HBd
  go_wp2_with fail
  go_ret
  exact ⟨rfl, HBz.out⟩

end Go.Proofs.YtigbbhojgajkjaiDoor.WalkAuditFinds
