/-
  The walk of TopForks: a log that tells two mirrors other entries, as many, is found out by their heads, but if two texts have one sum.
-/
import Derived.Test.YthaibjidfgmdmahGreatDoorTwoFaces
import Derived.Test.YthaibjidfgmdmahGreatDoorWalkFoOne
import Derived.Test.YthaibjidfgmdmahGreatDoorWalkFollow
import Derived.Test.YthaibjidfgmdmahGreatDoorWalkEntsEq
import Derived.Test.YthaibjidfgmdmahGreatDoorWalkTopOne
import Derived.Test.YthaibjidfgmdmahGreatDoorWalkSe
import Derived.Test.YthaibjidfgmdmahGreatDoorEntAll
import Derived.Test.YthaibjidfgmdmahGreatDoorWalkCollide
import Derived.Lib.QuietBelow
import Derived.Maps.AppendAt
import Derived.Deep.DeepMust
import Derived.Deep.CutBlock
import Derived.Deep.DeepCutAuto
namespace Go.Proofs.YthaibjidfgmdmahGreatDoor.WalkTopForks
open Go.RowKit
open Lists (bt Row ints strs)
open Keeps (Kept owns_kept owns_row)
open Wides (Wide)
open Entries (Entry entE entsE)
open EntRows (cells)
open Errs (errv errv0 errv_pos)
open Heads (Head isKey)
open Mirrors (Mir Ok rootE)
open HeadVals (hv aggH sizeH At)
open WalkMiOff (Off)
open Answers (logE logH)
open Forks (bothE provesV)
open TwoFaces (enc)
open Go.Sort (grow)

theorem infoS : (Tryz.prog.info? 9).map (fun i => (i.zero, i.size, i.bytes)) = some (some (.string ⟨#[]⟩), 1, 16) := by kernel_rfl
theorem cell_one_new (w : World) (a : Value) (t : TypeId) : ∀ j u, [a][j]? = some u → (w.alloc (.cells #[a] t)).cell? ((⟨w.heap.size, 0, none⟩ : Addr).add j) = some u := by
  intro j u hj
  match j, hj with
  | 0, hj => simp at hj; subst hj; simp [Addr.add]
  | j + 1, hj => simp at hj
theorem encode_ok (e : Entry) (w : World) (hd : e.2.size ≤ maxLen) (h0 : entE e = 0) : Calls Tryz.prog 20 #[.agg #[.int .i64 e.1, .string e.2]] w fun r w' => r = .returned (.tuple #[.string (enc e), .nilIface]) ∧ Below w.heap.size w w' := by
  have h := WalkEnt.encode_any e.1 e.2 w hd
  rw [show entE (e.1, e.2) = 0 from h0, show Entries.encV (e.1, e.2) = Entries.bytes e from if_pos h0, errv0] at h
  exact h
theorem strs_next (l : List Entry) (j : Nat) (hj : j < l.length) : strs ((l.take (j + 1)).map enc) = strs ((l.take j).map enc) ++ [.string (enc l[j])] := by
  rw [List.take_succ_eq_append_getElem hj, List.map_append]
  unfold Lists.strs
  rw [List.map_append]
  rfl
theorem small_next {l : List Entry} {j : Nat} (hj : j < l.length) (h : ∀ s ∈ (l.take j).map enc, s.size ≤ 200) (h2 : (enc l[j]).size ≤ 200) : ∀ s ∈ (l.take (j + 1)).map enc, s.size ≤ 200 := by
  intro s hs
  rw [List.take_succ_eq_append_getElem hj, List.map_append, List.mem_append] at hs
  rcases hs with hs | hs
  · exact h s hs
  · rw [List.map_singleton, List.mem_singleton] at hs
    rw [hs]
    exact h2
/-- two rows of the call's own, apart -/
structure Two (B : Nat) (w : World) (v u : Value) (j : Nat) (xs ys : List Value) : Prop where
  one : w.ownsRow B 9 1 v j xs
  two : w.ownsRow B 9 1 u j ys
  off : ∀ k, v.ownBlock = some k → u.ownBlock ≠ some k

set_option maxHeartbeats 16000000 in
set_option maxRecDepth 100000 in
theorem walk (a : Option Addr) (n cap : Nat) (l : List Entry) (hz : l.length * 24 ≤ 140737488351232) (hw : ∀ x ∈ l, (Lit.int .i64 x.1).wf = true ∧ x.2.size ≤ maxLen)
    (a2 : Option Addr) (n2 cap2 : Nat) (o : List Entry) (_ : o.length * 24 ≤ 140737488351232) (hw2 : ∀ x ∈ o, (Lit.int .i64 x.1).wf = true ∧ x.2.size ≤ maxLen)
    (key : Int) (_ : (Lit.int .i64 key).wf = true) (w : World) (r : Wide 2 w a n cap (cells l)) (r2 : Wide 2 w a2 n2 cap2 (cells o)) (hK : WalkHdLib.Tabs w) :
    Calls Tryz.prog 4 #[.slice a n cap, .slice a2 n2 cap2, .int .i64 key] w fun e w' => e = .returned (.bool true) ∧ Below w.heap.size w w' := by
  have hln := EntRows.len_of r
  have hon := EntRows.len_of r2
  have HT : Hid (∀ w', Below w.heap.size w w' → WalkHdLib.Tabs w') := fun w' b => hK.below b
  have HR : Hid (∀ w', Below w.heap.size w w' → Wide 2 w' a n cap (cells l)) := fun w' b => r.below b
  have HR2 : Hid (∀ w', Below w.heap.size w w' → Wide 2 w' a2 n2 cap2 (cells o)) := fun w' b => r2.below b
  have HZ : Hid (∀ e ∈ l, e.2.size ≤ maxLen) := fun e he => (hw e he).2
  have HZ2 : Hid (∀ e ∈ o, e.2.size ≤ maxLen) := fun e he => (hw2 e he).2
  have hnb : n ≤ 17592186043904 := by omega
  have HSame : Hid (∀ w', Below w.heap.size w w' → Calls Tryz.prog 15 #[.slice a n cap, .slice a2 n2 cap2] w' fun e w'' => e = .returned (.bool (decide (l = o))) ∧ Below w'.heap.size w' w'') := fun w' b => WalkEntsEq.entries_eq l o a a2 n n2 cap cap2 w' (HR.out w' b) (HR2.out w' b) hnb
  have aH := aggH
  have zH := sizeH
  clear hK r r2 hw hw2 hz
  go_enter Tryz.func4, Tryz.ntmps4
  go_wp2_with fail
  refine (WalkTopOne.one_any w).mono ?_
  rintro e w1 ⟨rfl, b1⟩
  have HB1 : Hid (Below w.heap.size w w1) := b1
  clear b1
  go_wp2_with fail
  refine (HSame.out w1 HB1.out).mono ?_
  rintro e w2 ⟨rfl, b2⟩
  have HB2 : Hid (Below w.heap.size w w2) := bt HB1.out b2
  clear b2 HB1 HSame
  by_cases h1 : n = n2
  rotate_left
  · have e1 : ((n : Int) != (n2 : Int)) = true := by rw [bne_iff_ne]; omega
    generalize decide (l = o) = SB
    go_wp2_with fail
    go_ret
    exact ⟨rfl, HB2.out⟩
  subst h1
  have e1 : ((n : Int) != (n : Int)) = false := by simp
  by_cases h2 : n = 0
  · have e2 : ((n : Int) == 0) = true := by simp; omega
    generalize decide (l = o) = SB
    go_wp2_with fail
    go_ret
    exact ⟨rfl, HB2.out⟩
  have e2 : ((n : Int) == 0) = false := by simp; omega
  by_cases h3 : 200 < n
  · have e3 : (200 : Int) < (n : Int) := by omega
    generalize decide (l = o) = SB
    go_wp2_with fail
    go_ret
    exact ⟨rfl, HB2.out⟩
  have e3 : ¬ (200 : Int) < (n : Int) := by omega
  by_cases h4 : l = o
  · rw [decide_eq_true h4]
    clear h4
    go_wp2_with fail
    go_ret
    exact ⟨rfl, HB2.out⟩
  have HNe : Hid (l ≠ o) := h4
  rw [decide_eq_false h4]
  clear h4
  have HN1 : Hid (1 ≤ n ∧ n ≤ 200) := by show _ ∧ _; omega
  have HHl : Hid (∀ w', Below w.heap.size w w' → Calls Tryz.prog 12 #[.slice a n cap, .int .i64 key, .int .i64 0] w' fun e w'' => e = .returned (.tuple #[hv (logH l key 0), errv (logE l key 0)]) ∧ Below w'.heap.size w' w'') := fun w' b => WalkSe.head_any l a n cap key 0 w' (HR.out w' b) HZ.out (HT.out w' b)
  have HHo : Hid (∀ w', Below w.heap.size w w' → Calls Tryz.prog 12 #[.slice a2 n cap2, .int .i64 key, .int .i64 0] w' fun e w'' => e = .returned (.tuple #[hv (logH o key 0), errv (logE o key 0)]) ∧ Below w'.heap.size w' w'') := fun w' b => WalkSe.head_any o a2 n cap2 key 0 w' (HR2.out w' b) HZ2.out (HT.out w' b)
  obtain ⟨EK, HEK⟩ : ∃ EK, Hid (errv (if isKey key = true then 0 else 1) = EK) := ⟨_, rfl⟩
  obtain ⟨EL, HEL⟩ : ∃ EL, Hid (errv (logE l key 0) = EL) := ⟨_, rfl⟩
  obtain ⟨EO, HEO⟩ : ∃ EO, Hid (errv (logE o key 0) = EO) := ⟨_, rfl⟩
  obtain ⟨XL, HXL⟩ : ∃ XL, Hid (logH l key 0 = XL) := ⟨_, rfl⟩
  obtain ⟨XO, HXO⟩ : ∃ XO, Hid (logH o key 0 = XO) := ⟨_, rfl⟩
  rw [HEL.out, HXL.out] at HHl
  rw [HEO.out, HXO.out] at HHo
  obtain ⟨x0, x1, x2, x3⟩ := XL
  obtain ⟨y0, y1, y2, y3⟩ := XO
  unfold hv at HHl HHo
  simp only at HHl HHo
  have cN := WalkMi.new_any key w2 w.heap.size HB2.out.size (HT.out w2 HB2.out)
  rw [HEK.out] at cN
  go_wp2_with fail
  refine cN.mono ?_
  rintro e w3 ⟨v3, rfl, hv3, b3⟩
  have HB3 : Hid (Below w.heap.size w w3) := bt HB2.out b3
  have HV3 : Hid (isKey key = true → ∃ b F, v3 = .pointer (some ⟨b, 0, none⟩) ∧ WalkMi.Mi w3 w.heap.size b F key Mirrors.start) := fun h => by
    obtain ⟨b, F, h1, h2, _⟩ := hv3 h
    exact ⟨b, F, h1, h2⟩
  clear cN b3 hv3
  have cN := WalkMi.new_any key w3 w.heap.size HB3.out.size (HT.out w3 HB3.out)
  rw [HEK.out] at cN
  go_wp2_with fail
  refine cN.mono ?_
  rintro e w4 ⟨v4, rfl, hv4, b4⟩
  have HC4 : Hid (Below w3.heap.size w3 w4) := b4
  have HB4 : Hid (Below w.heap.size w w4) := bt HB3.out b4
  have HV4 : Hid (isKey key = true → ∃ b F, v4 = .pointer (some ⟨b, 0, none⟩) ∧ WalkMi.Mi w4 w.heap.size b F key Mirrors.start ∧ ∀ k, F k → w3.heap.size ≤ k) := hv4
  clear cN b4 hv4
  go_wp2_with fail
  refine (HHl.out w4 HB4.out).mono ?_
  rintro e w5 ⟨rfl, b5⟩
  go_upto_region 10 with fail
  have HC6 : Hid (Below w4.heap.size w4 (w5.alloc (.cells #[.int .i64 x0, .int .i64 x1, .int .i64 x2, .int .i64 x3] 30))) := b5.alloc b5.size _
  have HA6 : Hid (At (w5.alloc (.cells #[.int .i64 x0, .int .i64 x1, .int .i64 x2, .int .i64 x3] 30)) w5.heap.size ⟨x0, x1, x2, x3⟩) := At.new w5 x0 x1 x2 x3
  generalize w5.alloc (.cells #[.int .i64 x0, .int .i64 x1, .int .i64 x2, .int .i64 x3] 30) = w6 at HC6 HA6 ⊢
  generalize w5.heap.size = gx at HA6 ⊢
  clear b5
  go_wp2_with fail
  refine (HHo.out w6 (bt HB4.out HC6.out)).mono ?_
  rintro e w7 ⟨rfl, b7⟩
  go_upto_region 11 with fail
  have HC8 : Hid (Below w4.heap.size w4 (w7.alloc (.cells #[.int .i64 y0, .int .i64 y1, .int .i64 y2, .int .i64 y3] 30))) := bt HC6.out (b7.alloc b7.size _)
  have HA8 : Hid (At (w7.alloc (.cells #[.int .i64 y0, .int .i64 y1, .int .i64 y2, .int .i64 y3] 30)) gx ⟨x0, x1, x2, x3⟩) := (HA6.out.below b7).alloc _
  have HE8 : Hid (At (w7.alloc (.cells #[.int .i64 y0, .int .i64 y1, .int .i64 y2, .int .i64 y3] 30)) w7.heap.size ⟨y0, y1, y2, y3⟩) := At.new w7 y0 y1 y2 y3
  have HG8 : Hid (w4.heap.size ≤ w7.heap.size ∧ w7.heap.size < (w7.alloc (.cells #[.int .i64 y0, .int .i64 y1, .int .i64 y2, .int .i64 y3] 30)).heap.size) := ⟨by have := HC6.out.size; have := b7.size; omega, by simp⟩
  generalize w7.alloc (.cells #[.int .i64 y0, .int .i64 y1, .int .i64 y2, .int .i64 y3] 30) = w8 at HC8 HA8 HE8 HG8 ⊢
  generalize w7.heap.size = gy at HE8 HG8 ⊢
  have HB8 : Hid (Below w.heap.size w w8) := bt HB4.out HC8.out
  clear b7 HA6 HC6 HHl HHo
  by_cases hk : isKey key = true
  rotate_left
  · have e4 : EK = .iface 70 (.int .i64 1) := by rw [← HEK.out, if_neg hk]; rfl
    subst e4
    clear hk
    go_wp2_with fail
    go_ret
    exact ⟨rfl, HB8.out⟩
  have e4 : EK = .nilIface := by rw [← HEK.out, if_pos hk]; rfl
  subst e4
  by_cases hEl : logE l key 0 = 0
  rotate_left
  · have e5 : EL = .iface 70 (.int .i64 (logE l key 0 : Nat)) := by rw [← HEL.out]; exact errv_pos _ hEl
    clear hEl HEL
    subst e5
    go_wp2_with fail
    go_ret
    exact ⟨rfl, HB8.out⟩
  have e5 : EL = .nilIface := by rw [← HEL.out, hEl]; rfl
  subst e5
  by_cases hEo : logE o key 0 = 0
  rotate_left
  · have e6 : EO = .iface 70 (.int .i64 (logE o key 0 : Nat)) := by rw [← HEO.out]; exact errv_pos _ hEo
    clear hEo HEO
    subst e6
    go_wp2_with fail
    go_ret
    exact ⟨rfl, HB8.out⟩
  have e6 : EO = .nilIface := by rw [← HEO.out, hEo]; rfl
  subst e6
  obtain ⟨ba, FA, rfl, hma⟩ := HV3.out hk
  obtain ⟨bb, FB, rfl, hmb, hfb⟩ := HV4.out hk
  have HLl : Hid (logE l key 0 = 0) := hEl
  have HLo : Hid (logE o key 0 = 0) := hEo
  obtain ⟨T, HTe⟩ : ∃ T : Nat → Prop, Hid (∀ k, T k ↔ FB k ∨ k = gy) := ⟨fun k => FB k ∨ k = gy, fun _ => Iff.rfl⟩
  have HOa : Hid (Off T w ba key Mirrors.start w8) := by
    refine ⟨⟨FA, hma.kept (Kept.of_below (fun _ => False) (bt HC4.out HC8.out)) (fun _ _ h => h), fun k hk1 hk2 => ?_⟩, fun k hk1 => ?_, HB8.out, Mirrors.start_ok key⟩
    · have q1 := (hma.foot k hk2).2
      rcases (HTe.out k).1 hk1 with q | q
      · have := hfb k q
        omega
      · have := HG8.out.1
        have := HC4.out.size
        omega
    · rcases (HTe.out k).1 hk1 with q | q
      · have h := hmb.foot k q
        have := HC8.out.size
        exact ⟨h.1, by omega⟩
      · have := HG8.out
        have := HB4.out.size
        exact ⟨by omega, by omega⟩
  have HMb : Hid (WalkMi.Mi w8 w.heap.size bb FB key Mirrors.start) := hmb.kept (Kept.of_below (fun _ => False) HC8.out) (fun _ _ h => h)
  have cFa := WalkFollow.follow_any HOa.out l a n cap (HR.out w (Below.refl _ _)) HZ.out HT.out HN1.out.1 HLl.out
  rw [HXL.out] at cFa
  unfold hv at cFa
  simp only at cFa
  clear hma hmb hfb hEl hEo hk HV3 HV4 HEK HEL HEO HB2
  obtain ⟨p0, p1, p2, p3⟩ := HA8.out
  simp only at p0 p1 p2 p3
  go_wp2_with fail
  refine cFa.mono ?_
  rintro e w9 ⟨rfl, ⟨ma, hAta, hOfa⟩, k9⟩
  have HK9 : Hid (Kept (fun k => ¬ T k) w8 w9) := k9
  have HMb9 : Hid (WalkMi.Mi w9 w.heap.size bb FB key Mirrors.start) := HMb.out.kept k9 fun i hi q => q ((HTe.out i).2 (.inl hi))
  have HE9 : Hid (At w9 gy ⟨y0, y1, y2, y3⟩) := by
    have hlt : gy < w8.heap.size := HG8.out.2
    have hns : ¬ ¬ T gy := fun q => q ((HTe.out gy).2 (.inr rfl))
    obtain ⟨z0, z1, z2, z3⟩ := HE8.out
    exact ⟨by rw [k9.cell hlt hns]; exact z0, by rw [k9.cell hlt hns]; exact z1, by rw [k9.cell hlt hns]; exact z2, by rw [k9.cell hlt hns]; exact z3⟩
  have HAta : Hid (Follows.At key l n ma) := hAta
  have HOka : Hid (Ok key ma) := hOfa.ok
  have HB9 : Hid (Below w.heap.size w w9) := hOfa.below
  obtain ⟨FA', hma', hdis⟩ := hOfa.lies
  have HMa9 : Hid (WalkMi.Mi w9 w.heap.size ba FA' key ma) := hma'
  have HOb : Hid (Off FA' w bb key Mirrors.start w9) := ⟨⟨FB, HMb9.out, fun k hk1 hk2 => hdis k ((HTe.out k).2 (.inl hk2)) hk1⟩, fun k hk1 => hma'.foot k hk1, HB9.out, Mirrors.start_ok key⟩
  have cFb := WalkFollow.follow_any HOb.out o a2 n cap2 (HR2.out w (Below.refl _ _)) HZ2.out HT.out HN1.out.1 HLo.out
  rw [HXO.out] at cFb
  unfold hv at cFb
  simp only at cFb
  clear cFa p0 p1 p2 p3 hAta hOfa k9 hma' hdis HA8 HE8 HMb HOa HMb9 HK9 HTe
  obtain ⟨p0, p1, p2, p3⟩ := HE9.out
  simp only at p0 p1 p2 p3
  go_wp2_with fail
  refine cFb.mono ?_
  rintro e w10 ⟨rfl, ⟨mb, hAtb, hOfb⟩, k10⟩
  have HMa : Hid (WalkMi.Mi w10 w.heap.size ba FA' key ma) := HMa9.out.kept k10 fun i hi q => q hi
  have HAtb : Hid (Follows.At key o n mb) := hAtb
  have HOkb : Hid (Ok key mb) := hOfb.ok
  have HB10 : Hid (Below w.heap.size w w10) := hOfb.below
  have HOb10 : Hid (Off FA' w bb key mb w10) := hOfb
  clear cFb p0 p1 p2 p3 hAtb hOfb k10 HMa9 HOb HE9
  have cHa := WalkMi.head_any HMa.out
  have HFc : Hid (bothE ma.head mb.head key = 0 ∧ provesV ma.head mb.head key = decide (rootE l ≠ rootE o)) := TwoFaces.faces hln hon HN1.out.1 HAta.out HAtb.out HOka.out HOkb.out
  have HPr : Hid (∀ w', Below w.heap.size w w' → Calls Tryz.prog 18 #[hv ma.head, hv mb.head, .int .i64 key] w' fun e w'' => e = .returned (.tuple #[.bool (decide (rootE l ≠ rootE o)), .nilIface]) ∧ Below w'.heap.size w' w'') := fun w' b => by
    have h := WalkFo.proves_any ma.head mb.head key w' (HT.out w' b)
    rw [HFc.out.1, HFc.out.2, errv0] at h
    exact h
  have HHb : Hid (∀ w', Below w10.heap.size w10 w' → Calls Tryz.prog 19 #[.pointer (some ⟨bb, 0, none⟩)] w' fun e w'' => e = .returned (hv mb.head) ∧ Below w'.heap.size w' w'') := fun w' b => by
    refine (WalkMiOff.head_off (HOb10.out.stays b)).mono ?_
    rintro e w'' ⟨h1, _, h2⟩
    exact ⟨h1, h2⟩
  generalize hv ma.head = VA at cHa HPr
  generalize hv mb.head = VB at HHb HPr
  clear HFc HAta HAtb HOka HOkb HOb10
  go_wp2_with fail
  refine cHa.mono ?_
  rintro e w11 ⟨rfl, b11⟩
  have HC11 : Hid (Below w10.heap.size w10 w11) := b11
  clear cHa b11
  go_wp2_with fail
  refine (HHb.out w11 HC11.out).mono ?_
  rintro e w12 ⟨rfl, b12⟩
  have HB12 : Hid (Below w.heap.size w w12) := bt HB10.out (bt HC11.out b12)
  clear b12 HHb
  go_wp2_with fail
  refine (HPr.out w12 HB12.out).mono ?_
  rintro e w13 ⟨rfl, b13⟩
  have HB13 : Hid (Below w.heap.size w w13) := bt HB12.out b13
  clear b13 HPr HB12 HC11 HB10
  by_cases hro : rootE l = rootE o
  rotate_left
  · rw [decide_eq_true hro]
    clear hro
    go_wp2_with fail
    go_ret
    exact ⟨rfl, HB13.out⟩
  rw [decide_eq_false (fun q => q hro)]
  have HRo : Hid (rootE l = rootE o) := hro
  clear hro
  go_upto_region 22 with fail
  have HFl : Hid (entsE l = 0 ∧ entsE o = 0) := ⟨(Answers.log_ok HLl.out).1, (Answers.log_ok HLo.out).1⟩
  go_loopw [19, 20, 21] (fun vx vy iv wr => ∃ j : Nat, j ≤ n ∧ iv = .int .i64 (j : Int) ∧ Hid (Two w13.heap.size wr vx vy j (strs ((l.take j).map enc)) (strs ((o.take j).map enc))) ∧ Hid ((∀ s ∈ (l.take j).map enc, s.size ≤ 200) ∧ ∀ s ∈ (o.take j).map enc, s.size ≤ 200) ∧ Hid (Below w13.heap.size w13 wr)) (fun _ _ iv _ => n - (intOf iv).toNat)
  case atStart => exact ⟨0, Nat.zero_le _, rfl, ⟨World.ownsRow_nil _ _ _ _, World.ownsRow_nil _ _ _ _, fun k hk => by simp [Value.ownBlock] at hk⟩, ⟨fun s hs => by simp at hs, fun s hs => by simp at hs⟩, Below.refl _ _⟩
  case round =>
    obtain ⟨j, hj, rfl, HTw, HSm, HBr⟩ := hrel
    by_cases hjn : j < n
    · have i1 : (j : Int) < (n : Int) := by omega
      obtain ⟨gl, ol, rfl, _⟩ := (HR.out w (Below.refl _ _)).2.2 (by omega)
      obtain ⟨go, oo, rfl, _⟩ := (HR2.out w (Below.refl _ _)).2.2 (by omega)
      have HCl : Hid (∀ w', Below w.heap.size w w' → w'.cell? ⟨gl, ol + j * 2, none⟩ = some (.int .i64 (l[j]'(by omega)).1) ∧ w'.cell? ⟨gl, ol + j * 2 + 1, none⟩ = some (.string (l[j]'(by omega)).2)) := fun w' b => EntRows.at_two (HR.out w' b) j (by omega)
      have HCo : Hid (∀ w', Below w.heap.size w w' → w'.cell? ⟨go, oo + j * 2, none⟩ = some (.int .i64 (o[j]'(by omega)).1) ∧ w'.cell? ⟨go, oo + j * 2 + 1, none⟩ = some (.string (o[j]'(by omega)).2)) := fun w' b => EntRows.at_two (HR2.out w' b) j (by omega)
      have HEl : Hid (∀ w', Calls Tryz.prog 20 #[.agg #[.int .i64 (l[j]'(by omega)).1, .string (l[j]'(by omega)).2]] w' fun r w'' => r = .returned (.tuple #[.string (enc (l[j]'(by omega))), .nilIface]) ∧ Below w'.heap.size w' w'') := fun w' => encode_ok _ w' (HZ.out _ (List.getElem_mem _)) ((Entries.ents_ok HFl.out.1).2 _ (List.getElem_mem _))
      have HEo : Hid (∀ w', Calls Tryz.prog 20 #[.agg #[.int .i64 (o[j]'(by omega)).1, .string (o[j]'(by omega)).2]] w' fun r w'' => r = .returned (.tuple #[.string (enc (o[j]'(by omega))), .nilIface]) ∧ Below w'.heap.size w' w'') := fun w' => encode_ok _ w' (HZ2.out _ (List.getElem_mem _)) ((Entries.ents_ok HFl.out.2).2 _ (List.getElem_mem _))
      have HNl : Hid (strs ((l.take (j + 1)).map enc) = strs ((l.take j).map enc) ++ [.string (enc (l[j]'(by omega)))]) := strs_next l j (by omega)
      have HNo : Hid (strs ((o.take (j + 1)).map enc) = strs ((o.take j).map enc) ++ [.string (enc (o[j]'(by omega)))]) := strs_next o j (by omega)
      have HSl : Hid ((enc (l[j]'(by omega))).size ≤ 200 → ∀ s ∈ (l.take (j + 1)).map enc, s.size ≤ 200) := small_next (by omega) HSm.out.1
      have HSo : Hid ((enc (o[j]'(by omega))).size ≤ 200 → ∀ s ∈ (o.take (j + 1)).map enc, s.size ≤ 200) := small_next (by omega) HSm.out.2
      generalize enc (l[j]'(by omega)) = S1 at HEl HNl HSl
      generalize enc (o[j]'(by omega)) = S2 at HEo HNo HSo
      generalize l[j]'(by omega) = E1 at HCl HEl
      generalize o[j]'(by omega) = E2 at HCo HEo
      obtain ⟨t1, d1⟩ := E1
      obtain ⟨t2, d2⟩ := E2
      simp only at HCl HCo HEl HEo
      obtain ⟨p0, p1⟩ := HCl.out wr (bt HB13.out HBr.out)
      go_wp2_with fail
      refine (HEl.out _).mono ?_
      rintro e w14 ⟨rfl, b14⟩
      have HB14 : Hid (Below wr.heap.size wr w14) := b14
      clear b14 p0 p1
      obtain ⟨p0, p1⟩ := HCo.out w14 (bt (bt HB13.out HBr.out) HB14.out)
      go_wp2_with fail
      refine (HEo.out _).mono ?_
      rintro e w15 ⟨rfl, b15⟩
      have HB15 : Hid (Below wr.heap.size wr w15) := bt HB14.out b15
      clear b15 p0 p1 HB14
      by_cases hs1 : 200 < S1.size
      · have k1 : (200 : Int) < (S1.size : Int) := by omega
        have HBe : Hid (Below w.heap.size w w15) := bt (bt HB13.out HBr.out) HB15.out
        go_wp2_with fail
        go_ret
        exact ⟨rfl, HBe.out⟩
      have k1 : ¬ (200 : Int) < (S1.size : Int) := by omega
      by_cases hs2 : 200 < S2.size
      · have k2 : (200 : Int) < (S2.size : Int) := by omega
        have HBe : Hid (Below w.heap.size w w15) := bt (bt HB13.out HBr.out) HB15.out
        go_wp2_with fail
        go_ret
        exact ⟨rfl, HBe.out⟩
      have k2 : ¬ (200 : Int) < (S2.size : Int) := by omega
      have HSm2 : Hid ((∀ s ∈ (l.take (j + 1)).map enc, s.size ≤ 200) ∧ ∀ s ∈ (o.take (j + 1)).map enc, s.size ≤ 200) := ⟨HSl.out (by omega), HSo.out (by omega)⟩
      have HTw2 : Hid (Two w13.heap.size w15 u19 u20 j (strs ((l.take j).map enc)) (strs ((o.take j).map enc))) := ⟨owns_kept HTw.out.one (Kept.of_below (fun _ => False) HB15.out) (fun _ _ h => h), owns_kept HTw.out.two (Kept.of_below (fun _ => False) HB15.out) (fun _ _ h => h), HTw.out.off⟩
      have HW15 : Hid (Below w13.heap.size w13 w15) := bt HBr.out HB15.out
      have HBs : Hid (w13.heap.size ≤ w15.heap.size) := HW15.out.size
      obtain ⟨i0, hi, hz0, hz1, hz2⟩ := info_parts infoS
      have HFF : Hid (∀ v1 wn, wn.ownsRow w13.heap.size 9 1 v1 (j + 1) (strs ((l.take j).map enc) ++ [.string S1]) → (w15.alloc (.cells #[.string S1] 9)).grownBy wn u19.ownBlock → (v1.ownBlock = u19.ownBlock ∨ v1.ownBlock = some (w15.alloc (.cells #[.string S1] 9)).heap.size) → Below w13.heap.size w13 wn ∧ wn.ownsRow w13.heap.size 9 1 v1 (j + 1) (strs ((l.take (j + 1)).map enc)) ∧ wn.ownsRow w13.heap.size 9 1 u20 j (strs ((o.take j).map enc)) ∧ ∀ k, v1.ownBlock = some k → u20.ownBlock ≠ some k) := fun v1 wn o1 g1 at1 => by
        refine ⟨(HW15.out.alloc HBs.out _).grown g1 (by have := HBs.out; simp; omega) (fun i hi => (HTw2.out.one.lt i hi).1), by rw [HNl.out]; exact o1, ?_, fun k hk1 hk2 => ?_⟩
        · exact owns_kept (HTw2.out.two.alloc _) ((Kept.refl (fun k => u19.ownBlock = some k) _).grown g1 (fun k hk => .inl hk)) (fun i hi q => HTw2.out.off i q hi)
        · rcases at1 with q | q
          · rw [q] at hk1
            exact HTw2.out.off k hk1 hk2
          · rw [q] at hk1
            have h1 := (HTw2.out.two.lt k hk2).2
            have h2 := Option.some.inj hk1
            simp at h2
            omega
      go_upto_region 31 with (at_builtin; go_must (refine wpList_append_own_at _ rfl (.tmp 147) (.tmp 149) 51 rfl w13.heap.size 9 i0 (.string ⟨#[]⟩) 1 16 Tryz.underlying51 hi hz0 hz1 hz2 rfl (by decide) u19 j (strs ((l.take j).map enc)) rfl (HTw2.out.one.alloc _) ⟨_, 0, none⟩ 1 1 [.string S1] rfl rfl (cell_one_new _ _ _) (fun u hu => by rw [List.mem_singleton.1 hu]; rfl) (by unfold maxLen; omega) (by omega) (by have := HBs.out; simp; omega) ?_); intro v1 wn o1 g1 z1 at1; clear z1; have HG1 := HFF.out v1 wn o1 g1 at1; clear o1 g1 at1)
      have HG2 : Hid (Below w13.heap.size w13 wn ∧ wn.ownsRow w13.heap.size 9 1 v1 (j + 1) (strs ((l.take (j + 1)).map enc)) ∧ wn.ownsRow w13.heap.size 9 1 u20 j (strs ((o.take j).map enc)) ∧ ∀ k, v1.ownBlock = some k → u20.ownBlock ≠ some k) := HG1
      clear HG1 HFF
      have HBn : Hid (w13.heap.size ≤ wn.heap.size) := HG2.out.1.size
      have HFF : Hid (∀ v2 wm, wm.ownsRow w13.heap.size 9 1 v2 (j + 1) (strs ((o.take j).map enc) ++ [.string S2]) → (wn.alloc (.cells #[.string S2] 9)).grownBy wm u20.ownBlock → (v2.ownBlock = u20.ownBlock ∨ v2.ownBlock = some (wn.alloc (.cells #[.string S2] 9)).heap.size) → Below w13.heap.size w13 wm ∧ Two w13.heap.size wm v1 v2 (j + 1) (strs ((l.take (j + 1)).map enc)) (strs ((o.take (j + 1)).map enc))) := fun v2 wm o2 g2 at2 => by
        obtain ⟨z1, z2, z3, z4⟩ := HG2.out
        refine ⟨(z1.alloc HBn.out _).grown g2 (by have := HBn.out; simp; omega) (fun i hi => (z3.lt i hi).1), ⟨?_, by rw [HNo.out]; exact o2, fun k hk1 hk2 => ?_⟩⟩
        · exact owns_kept (z2.alloc _) ((Kept.refl (fun k => u20.ownBlock = some k) _).grown g2 (fun k hk => .inl hk)) (fun i hi q => z4 i hi q)
        · rcases at2 with q | q
          · rw [q] at hk2
            exact z4 k hk1 hk2
          · rw [q] at hk2
            have h1 := (z2.lt k hk1).2
            have h2 := Option.some.inj hk2
            simp at h2
            omega
      go_wp2_with (at_builtin; go_must (refine wpList_append_own_at _ rfl (.tmp 151) (.tmp 153) 51 rfl w13.heap.size 9 i0 (.string ⟨#[]⟩) 1 16 Tryz.underlying51 hi hz0 hz1 hz2 rfl (by decide) u20 j (strs ((o.take j).map enc)) rfl (HG2.out.2.2.1.alloc _) ⟨_, 0, none⟩ 1 1 [.string S2] rfl rfl (cell_one_new _ _ _) (fun u hu => by rw [List.mem_singleton.1 hu]; rfl) (by unfold maxLen; omega) (by omega) (by have := HBn.out; simp; omega) ?_); intro v2 wm o2 g2 z2 at2; clear z2; have HG3 : Hid (Below w13.heap.size w13 wm ∧ Two w13.heap.size wm v1 v2 (j + 1) (strs ((l.take (j + 1)).map enc)) (strs ((o.take (j + 1)).map enc))) := HFF.out v2 wm o2 g2 at2; clear o2 g2 at2)
      go_roundw
      case rel => exact ⟨j + 1, by omega, by go_num, HG3.out.2, HSm2, HG3.out.1⟩
      case measure => simp [intOf]; omega
    · have i1 : ¬ (j : Int) < (n : Int) := by omega
      obtain rfl : j = n := by omega
      have el : (l.take j).map enc = l.map enc := by rw [List.take_of_length_le (by omega)]
      have eo : (o.take j).map enc = o.map enc := by rw [List.take_of_length_le (by omega)]
      obtain ⟨t1, t2, t3⟩ := HTw.out
      rw [el] at t1
      rw [eo] at t2
      have hsm := HSm.out
      rw [el, eo] at hsm
      obtain ⟨px, cx, rfl, rx, -⟩ := owns_row t1
      obtain ⟨py, cy, rfl, ry, -⟩ := owns_row t2
      obtain ⟨c0, c1, c2, c3, c4⟩ := TwoFaces.collides HFl.out.1 HFl.out.2 (by rw [hln, hon]) HNe.out HRo.out hsm.1 hsm.2
      have cC := WalkCollide.collide_any (l.map enc) (o.map enc) px py j j cx cy wr rx ry
      rw [c0, show WalkCheck.errv 0 = .nilIface from rfl] at cC
      generalize (Trees.collideV (l.map enc) (o.map enc)).1 = A at cC c1 c2 c3
      generalize (Trees.collideV (l.map enc) (o.map enc)).2 = B at cC c1 c2 c4
      have hq : (A.toList == B.toList) = false := WalkData.beq_no c1
      have d1 : ∀ w1 q os, Calls Tryz.prog 22 #[.string A] (grow (redrawn w1 q) os) fun e w'' => e = .returned (.int .i64 (Sums.sum A.data.toList)) ∧ ∃ p : Regrown, w'' = grow (redrawn w1 p.d) p.os :=
        fun w1 q os => Calls.regrown_of ((WalkSum.sum_any _ _ (Nat.le_trans c3 (by decide))).mono fun e w' ⟨he, hw⟩ => ⟨he, hw ▸ Below.refl _ _⟩)
      have d2 : ∀ w1 q os, Calls Tryz.prog 22 #[.string B] (grow (redrawn w1 q) os) fun e w'' => e = .returned (.int .i64 (Sums.sum B.data.toList)) ∧ ∃ p : Regrown, w'' = grow (redrawn w1 p.d) p.os :=
        fun w1 q os => Calls.regrown_of ((WalkSum.sum_any _ _ (Nat.le_trans c4 (by decide))).mono fun e w' ⟨he, hw⟩ => ⟨he, hw ▸ Below.refl _ _⟩)
      rw [c2] at d1
      generalize Sums.sum B.data.toList = S at d1 d2
      have HBe : Hid (Below w.heap.size w wr) := bt HB13.out HBr.out
      clear t1 t2 t3 hsm rx ry c0 c1 c2 c3 c4 el eo HTw HSm HBr
      go_wp2_with fail
      refine cC.mono ?_
      rintro e w14 ⟨rfl, b14⟩
      have HB14 : Hid (Below w.heap.size w w14) := bt HBe.out b14
      clear cC b14
      have bn : Below w.heap.size w (w14.alloc (.cells #[.string A, .string B] 54)) := HB14.out.alloc HB14.out.size _
      have e0 : (w14.alloc (.cells #[.string A, .string B] 54)).cell? ⟨w14.heap.size, 0, none⟩ = some (.string A) := by simp
      have e1' : (w14.alloc (.cells #[.string A, .string B] 54)).cell? ⟨w14.heap.size, 1, none⟩ = some (.string B) := by simp
      go_wp2_with fail
      generalize w14.alloc (.cells #[.string A, .string B] 54) = w15 at bn e0 e1' ⊢
      have f0 := cell_regrown e0
      have f1 := cell_regrown e1'
      generalize w14.heap.size = g at f0 f1 ⊢
      clear e0 e1' e1 e2 e3 HB14 HBe
      refine wp_region_quiet_below (by kernel_rfl) (by kernel_rfl) ?_
      repeat (quiet_step (fail))
      quiet_step (exact d1 _ _ _)
      repeat (quiet_step (fail))
      quiet_step (exact d2 _ _ _)
      repeat (quiet_step (fail))
      refine wpQuiet_nil ?_
      intro _ hw'
      obtain ⟨⟨dq, osq⟩, hw''⟩ := hw'
      subst hw''
      go_wp2_with fail
      go_ret
      exact ⟨rfl, bt bn (below_regrown _ dq osq)⟩

end Go.Proofs.YthaibjidfgmdmahGreatDoor.WalkTopForks
