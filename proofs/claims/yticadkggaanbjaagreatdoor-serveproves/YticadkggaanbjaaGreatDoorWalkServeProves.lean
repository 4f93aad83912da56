/-
  The walk of ServeProves: the head that is told is signed, an entry is proved by the proof that is told, and each size by the one that it grew.
-/
import Derived.Test.YticadkggaanbjaaGreatDoorSeAll
import Derived.Test.YticadkggaanbjaaGreatDoorWalkSumsOf
import Derived.Test.YticadkggaanbjaaGreatDoorProofChk
import Derived.Test.YticadkggaanbjaaGreatDoorGrowRun
import Derived.Test.YticadkggaanbjaaGreatDoorWalkHdRead
import Derived.Test.YticadkggaanbjaaGreatDoorHdRun
import Derived.Lib.QuietBelow
import Derived.BigRegion
import Derived.Deep.RegionHeld3
namespace Go.Proofs.YticadkggaanbjaaGreatDoor.WalkServeProves
open Go.RowKit
open Lists (Row ints bt)
open Keeps (owns_row)
open Errs (errv errv0 errv_pos)
open Wides (Wide)
open EntRows (cells)
open Entries (Entry leafsOf)
open Heads (Head print verifyE parse)
open HeadVals (hv aggH sizeH At)
open Nums (str text)
open Decimals (dec)
open Mirrors (rootE)
open Go.Sort (grow)
open Answers (answer logE logH sumsT wHead wLeaf wProof wGrow)

theorem turns_le : ∀ (f i n : Nat), (Ways.turnsF f i n).length ≤ f
  | 0, _, _ => by simp [Ways.turnsF]
  | f + 1, i, n => by
    unfold Ways.turnsF
    split
    · simp
    · split
      · have := turns_le f i (Trees.half n)
        simp only [List.length_append, List.length_singleton]
        omega
      · have := turns_le f (i - Trees.half n) (n - Trees.half n)
        simp only [List.length_append, List.length_singleton]
        omega
theorem way_le (l : List Int) (i : Nat) : (Ways.way l i).length ≤ l.length := by
  rw [Ways.way_len]
  exact turns_le _ _ _
theorem grow_le (l : List Int) (o : Nat) (h1 : 1 ≤ o) (h2 : o ≤ l.length) : (Grows.grow l o true).length ≤ l.length + 1 := by
  rw [Grows.grow_length _ l o true (Nat.le_refl _) h1 h2]
  have := Grows.gturns_le _ o l.length (Nat.le_refl _)
  unfold Grows.gsteps
  split <;> omega
theorem check_zero {l : List Entry} {i : Nat} (hi : i < l.length) (h2 : l.length ≤ 200) : WalkProofCheck.checkE (rootE l) (l.length : Nat) (i : Nat) ((leafsOf l).getD i 0) (Ways.way (leafsOf l) i) = 0 := by
  have hv := GrowRight.leafs_valid l
  have hl := Serves.leafs_len l
  have hs : Nums.valid ((leafsOf l).getD i 0) = true := by
    rw [List.getD_eq_getElem?_getD, List.getElem?_eq_getElem (by omega)]
    exact hv _ (List.getElem_mem _)
  have hp := Ways.way_valid _ (leafsOf l) i (Nat.le_refl _) hv
  unfold WalkProofCheck.checkE
  rw [if_pos (show WalkSteps.inside (i : Nat) (l.length : Nat) 200 = true from decide_eq_true ⟨by omega, by omega, by omega⟩), if_pos ⟨Serves.root_valid l, hs, GrowsE.all_ok hp⟩, Int.toNat_natCast, Int.toNat_natCast, if_pos (by rw [Ways.way_len, hl])]
  unfold WalkProofCheck.upE
  rw [if_pos (Serves.proves hi)]

theorem head_len {l : List Entry} {key now : Int} (h : logE l key now = 0) : (print (logH l key now)).length ≤ 100 := by
  obtain ⟨⟨h1, h2, h3, h4⟩, _⟩ := Heads.ok_iff.1 (Answers.head_ok h)
  have d1 := Decimals.dec_length 6 (logH l key now).size.toNat (by omega)
  have d2 := Decimals.dec_length 6 (logH l key now).time.toNat (by omega)
  unfold print
  simp only [List.length_append, List.length_cons, Nums.text_length]
  omega
theorem wide_take {w : World} {b off n cap : Nat} {l : List Entry} (h : Wide 2 w (some ⟨b, off, none⟩) n cap (cells l)) (k : Nat) (hk : k ≤ n) : Wide 2 w (some ⟨b, off, none⟩) k cap (cells (l.take k)) := by
  have hl := EntRows.len_of h
  refine ⟨by rw [EntRows.cells_length, List.length_take]; omega, by have := h.2.1; omega, fun hk0 => ⟨b, off, rfl, fun j u hu => ?_⟩⟩
  obtain ⟨b', off', ha, hc⟩ := h.2.2 (by omega)
  obtain ⟨rfl, rfl⟩ : b = b' ∧ off = off' := by simpa using ha
  refine hc j u ?_
  have e : cells l = cells (l.take k) ++ cells (l.drop k) := by rw [← EntRows.cells_append, List.take_append_drop]
  rw [e]
  exact List.getElem?_append_left (List.getElem?_eq_some_iff.1 hu).1 ▸ hu
/-- the law's one entry, as it lies -/
theorem one_wide (w : World) : Wide 2 (w.alloc (.cells #[.int .i64 3, .string ⟨#[104, 105]⟩] 38)) (some ⟨w.heap.size, 0, none⟩) 1 1 (cells [(3, ⟨#[104, 105]⟩)]) := by
  refine ⟨rfl, Nat.le_refl _, fun _ => ⟨_, _, rfl, fun j u hu => ?_⟩⟩
  match j, hu with
  | 0, hu => obtain rfl : Value.int .i64 3 = u := by simpa [cells] using hu
             simp
  | 1, hu => obtain rfl : Value.string ⟨#[104, 105]⟩ = u := by simpa [cells] using hu
             simp
  | j + 2, hu => simp [cells] at hu
theorem first_any (w : World) (hK : WalkHdLib.Tabs w) (hY : WalkSeNum.Syn w) : Calls Tryz.prog 8 #[.slice (some ⟨w.heap.size, 0, none⟩) 1 1, .int .i64 7, .int .i64 1, .string ⟨#[101, 110, 116, 114, 121, 32, 48]⟩] (w.alloc (.cells #[.int .i64 3, .string ⟨#[104, 105]⟩] 38)) fun e w' => ∃ F : ByteArray, (F.toList == [51, 32, 104, 105]) = true ∧ e = .returned (.tuple #[.string F, .nilIface]) ∧ Below w.heap.size w w' := by
  have b0 : Below w.heap.size w (w.alloc (.cells #[.int .i64 3, .string ⟨#[104, 105]⟩] 38)) := (Below.refl _ _).alloc (Nat.le_refl _) _
  have h := WalkSeAns.answer_any [(3, ⟨#[104, 105]⟩)] (some ⟨w.heap.size, 0, none⟩) 1 1 7 1 ⟨#[101, 110, 116, 114, 121, 32, 48]⟩ _ (one_wide w) (fun e he => by rw [List.mem_singleton.1 he]; decide) (by decide) (hK.below b0) (hY.below b0)
  rw [show (⟨#[101, 110, 116, 114, 121, 32, 48]⟩ : ByteArray).data.toList = [101, 110, 116, 114, 121, 32, 48] from rfl, Serves.first] at h
  refine h.mono ?_
  rintro e w1 ⟨rfl, b1⟩
  exact ⟨_, by rw [Nums.str_toList]; rfl, rfl, bt b0 b1⟩

set_option maxHeartbeats 8000000 in
set_option maxRecDepth 100000 in
theorem walk (a : Option Addr) (n cap : Nat) (l : List Entry) (_ : l.length * 24 ≤ 140737488351232) (hw : ∀ e ∈ l, (Lit.int .i64 e.1).wf = true ∧ e.2.size ≤ maxLen) (key : Int) (_ : (Lit.int .i64 key).wf = true) (now : Int) (_ : (Lit.int .i64 now).wf = true)
    (i : Int) (_ : (Lit.int .i64 i).wf = true) (old : Int) (_ : (Lit.int .i64 old).wf = true) (w : World) (hr : Wide 2 w a n cap (cells l)) (hK : WalkHdLib.Tabs w) (hY : WalkSeNum.Syn w) :
    Calls Tryz.prog 4 #[.slice a n cap, .int .i64 key, .int .i64 now, .int .i64 i, .int .i64 old] w fun e w' => e = .returned (.bool true) ∧ Below w.heap.size w w' := by
  have HZ : Hid (∀ e ∈ l, e.2.size ≤ maxLen) := fun e he => (hw e he).2
  have HR : Hid (Wide 2 w a n cap (cells l)) := hr
  have HK : Hid (WalkHdLib.Tabs w) := hK
  have HY : Hid (WalkSeNum.Syn w) := hY
  have hln := EntRows.len_of hr
  clear hw hr hK hY
  go_enter Tryz.func4, Tryz.ntmps4
  go_wp2_with fail
  refine (first_any w HK.out HY.out).mono ?_
  rintro e w1 ⟨F, t1, rfl, b1⟩
  go_upto_region 4 with fail
  have HB1 : Hid (Below w.heap.size w w1) := b1
  have cA := WalkSeAns.answer_any l a n cap key now ⟨#[104, 101, 97, 100]⟩ w1 (HR.out.below b1) HZ.out (by decide) (HK.out.below b1) (HY.out.below b1)
  rw [show (⟨#[104, 101, 97, 100]⟩ : ByteArray).data.toList = wHead from rfl, Serves.answer_head] at cA
  clear b1
  by_cases hE : logE l key now = 0
  rotate_left
  · rw [if_neg hE] at cA
    simp only at cA
    rw [errv_pos _ hE] at cA
    refine cA.mono ?_
    rintro e w2 ⟨rfl, b2⟩
    have HB2 : Hid (Below w.heap.size w w2) := bt HB1.out b2
    clear cA b2
    go_wp2_with fail
    go_ret
    exact ⟨rfl, HB2.out⟩
  rw [if_pos hE] at cA
  simp only at cA
  rw [errv0] at cA
  refine cA.mono ?_
  rintro e w2 ⟨rfl, b2⟩
  have HB2 : Hid (Below w.heap.size w w2) := bt HB1.out b2
  have hok := head_len hE
  have cP := fun w' => WalkHdRead.parse_any (str (print (logH l key now))) w' (by rw [Nums.str_size]; omega)
  have cV := fun w' (b : Below w.heap.size w w') => WalkHdSign.verify_any (logH l key now) key w' (HK.out.below b)
  rw [Serves.log_verify hE, errv0] at cV
  rw [Nums.str_data, Serves.log_parse hE] at cP
  simp only at cP
  rw [errv0] at cP
  generalize str (print (logH l key now)) = PR at cP ⊢
  rw [Serves.log_is hE, hln] at cP cV
  generalize Heads.signOf (Answers.bare l now) key = SG at cP cV
  obtain ⟨RT, HRT⟩ : ∃ RT, Hid (rootE l = RT) := ⟨_, rfl⟩
  rw [HRT.out] at cP cV
  unfold hv at cP cV
  simp only at cP cV
  clear cA b2 HB1
  go_wp2_with fail
  refine (cP _).mono ?_
  rintro e w3 ⟨rfl, b3⟩
  have HB3 : Hid (Below w.heap.size w w3) := bt HB2.out b3
  have a42 := aggH
  have z42 := sizeH
  clear cP b3 HB2 hok
  go_upto_region 9 with fail
  have hx : At (w3.alloc (.cells #[.int .i64 (n : Int), .int .i64 RT, .int .i64 now, .int .i64 SG] 31)) w3.heap.size ⟨n, RT, now, SG⟩ := At.new w3 n RT now SG
  have bd := HB3.out.alloc HB3.out.size (.cells #[.int .i64 (n : Int), .int .i64 RT, .int .i64 now, .int .i64 SG] 31)
  generalize w3.alloc (.cells #[.int .i64 (n : Int), .int .i64 RT, .int .i64 now, .int .i64 SG] 31) = w4 at hx bd ⊢
  generalize w3.heap.size = hb at hx ⊢
  have e1 : ((n : Int) == (n : Int)) = true := by simp
  have e2 : (now == now) = true := by simp
  obtain ⟨p0, p1, p2, p3⟩ := hx
  simp only at p0 p1 p2 p3
  go_wp2_with fail
  refine (cV _ bd).mono ?_
  rintro e w5 ⟨rfl, b5⟩
  have HX : Hid (At w5 hb ⟨n, RT, now, SG⟩) := At.below ⟨p0, p1, p2, p3⟩ b5
  have HB5 : Hid (Below w.heap.size w w5) := bt bd b5
  clear p0 p1 p2 p3 bd b5 cV HB3
  obtain ⟨p0, p1, p2, p3⟩ := HX.out
  simp only at p0 p1 p2 p3
  go_upto_region 11 with fail
  by_cases c1 : i < 0
  · go_wp2_with fail
    go_ret
    exact ⟨rfl, HB5.out⟩
  by_cases c2 : (n : Int) ≤ i
  · go_wp2_with fail
    go_ret
    exact ⟨rfl, HB5.out⟩
  obtain ⟨I, rfl⟩ : ∃ I : Nat, i = I := ⟨i.toNat, by omega⟩
  have hI : I < n := by omega
  have hn2 : n ≤ 200 := by have := (Entries.ents_ok (Answers.log_ok hE).1).1; omega
  have cD1 := fun w' => WalkHeadRef.digits I (I : Int) w' rfl (by omega)
  have cD2 := fun w' => WalkHeadRef.digits n (n : Int) w' rfl (by omega)
  have z1 := WalkHeadRef.dec_small I (by omega)
  have z2 := WalkHeadRef.dec_small n (by omega)
  have HQ1 : Hid ((⟨#[112, 114, 111, 111, 102, 32]⟩ : ByteArray) ++ str (dec I) ++ ⟨#[32]⟩ ++ str (dec n) = str (wProof ++ 32 :: (dec I ++ 32 :: dec n))) := by
    show str [112, 114, 111, 111, 102, 32] ++ str (dec I) ++ str [32] ++ str (dec n) = _
    rw [Nums.str_append, Nums.str_append, Nums.str_append]
    simp [wProof]
  have HQ2 : Hid ((⟨#[108, 101, 97, 102, 32]⟩ : ByteArray) ++ str (dec I) = str (wLeaf ++ 32 :: dec I)) := by
    show str [108, 101, 97, 102, 32] ++ str (dec I) = _
    rw [Nums.str_append]
    simp [wLeaf]
  have hrw := fun w' (b : Below w.heap.size w w') => HR.out.below b
  have HA1 : Hid (∀ w', Below w.heap.size w w' → Calls Tryz.prog 8 #[.slice a n cap, .int .i64 key, .int .i64 now, .string (⟨#[112, 114, 111, 111, 102, 32]⟩ ++ str (dec I) ++ ⟨#[32]⟩ ++ str (dec n))] w' fun e w'' => e = .returned (.tuple #[.string (str (sumsT (Ways.way (leafsOf l) I))), .nilIface]) ∧ Below w'.heap.size w' w'') := fun w' b => by
    rw [HQ1.out]
    have h := WalkSeAns.answer_any l a n cap key now (str (wProof ++ 32 :: (dec I ++ 32 :: dec n))) w' (hrw w' b) HZ.out (by rw [Nums.str_size] at z1 z2 ⊢; simp [wProof]; omega) (HK.out.below b) (HY.out.below b)
    rw [Nums.str_data, ← hln, Serves.answer_proof hE (by omega), hln] at h
    exact h
  have HA2 : Hid (∀ w', Below w.heap.size w w' → Calls Tryz.prog 8 #[.slice a n cap, .int .i64 key, .int .i64 now, .string (⟨#[108, 101, 97, 102, 32]⟩ ++ str (dec I))] w' fun e w'' => e = .returned (.tuple #[.string (str (text ((leafsOf l).getD I 0))), .nilIface]) ∧ Below w'.heap.size w' w'') := fun w' b => by
    rw [HQ2.out]
    have h := WalkSeAns.answer_any l a n cap key now (str (wLeaf ++ 32 :: dec I)) w' (hrw w' b) HZ.out (by rw [Nums.str_size] at z1 ⊢; simp [wLeaf]; omega) (HK.out.below b) (HY.out.below b)
    rw [Nums.str_data, Serves.answer_leaf hE (by omega)] at h
    exact h
  have hLf : Nums.valid ((leafsOf l).getD I 0) = true := by
    have hl := Serves.leafs_len l
    rw [List.getD_eq_getElem?_getD, List.getElem?_eq_getElem (by omega)]
    exact GrowRight.leafs_valid l _ (List.getElem_mem _)
  have cRd := fun w' => WalkRef.read_any (str (text ((leafsOf l).getD I 0))) w'
  rw [Nums.str_data, Nums.read_text _ hLf] at cRd
  have hway : (Ways.way (leafsOf l) I).length ≤ 200 := by have := way_le (leafsOf l) I; rw [Serves.leafs_len] at this; omega
  have HSm : Hid (∀ w', Calls Tryz.prog 17 #[.string (str (sumsT (Ways.way (leafsOf l) I)))] w' fun e w'' => ∃ v, e = .returned v ∧ w''.ownsRow w'.heap.size 3 1 v (Ways.way (leafsOf l) I).length (ints (Ways.way (leafsOf l) I)) ∧ Below w'.heap.size w' w'') := fun w' => WalkSumsOf.sums_any _ w' (Ways.way_valid _ _ _ (Nat.le_refl _) (GrowRight.leafs_valid l)) (by omega)
  have HCk : Hid (∀ w' a' c', Row w' a' (Ways.way (leafsOf l) I).length c' (ints (Ways.way (leafsOf l) I)) → Calls Tryz.prog 16 #[.int .i64 RT, .int .i64 (n : Int), .int .i64 (I : Int), .int .i64 ((leafsOf l).getD I 0), .slice a' (Ways.way (leafsOf l) I).length c'] w' fun e w'' => e = .returned .nilIface ∧ Below w'.heap.size w' w'') := fun w' a' c' h' => by
    have h := WalkProofCheck.check_any (rootE l) (l.length : Nat) (I : Nat) ((leafsOf l).getD I 0) (Ways.way (leafsOf l) I) a' _ c' w' h' (by omega)
    rw [check_zero (by omega) (by omega), HRT.out, hln, WalkCheck.errv0] at h
    exact h
  generalize str (sumsT (Ways.way (leafsOf l) I)) = SP at HA1 HSm
  generalize Ways.way (leafsOf l) I = WY at HSm HCk hway
  generalize str (text ((leafsOf l).getD I 0)) = LT at HA2 cRd
  generalize (leafsOf l).getD I 0 = LF at cRd HCk
  obtain ⟨A, HAe⟩ : ∃ A, Hid (str (dec I) = A) := ⟨_, rfl⟩
  obtain ⟨NN, HNe⟩ : ∃ A, Hid (str (dec n) = A) := ⟨_, rfl⟩
  rw [HAe.out] at cD1 z1 HA1 HA2
  rw [HNe.out] at cD2 z2 HA1
  clear HQ1 HQ2 hLf hrw
  go_wp2_with fail
  refine (cD1 _).mono ?_
  rintro e w6 ⟨rfl, rfl⟩
  clear cD1
  go_wp2_with fail
  refine (cD2 _).mono ?_
  rintro e w7 ⟨rfl, rfl⟩
  clear cD2
  have y1 : ¬ 9223372036854775807 < 6 + A.size := by omega
  have y2 : ¬ 9223372036854775807 < 6 + A.size + 1 := by omega
  have y3 : ¬ 9223372036854775807 < 6 + A.size + 1 + NN.size := by omega
  have y4 : ¬ 9223372036854775807 < 5 + A.size := by omega
  clear p0 p1 p2 p3
  go_wp2_with fail
  refine (HA1.out _ HB5.out).mono ?_
  rintro e w8 ⟨rfl, b8⟩
  have HX8 : Hid (At w8 hb ⟨n, RT, now, SG⟩) := HX.out.below b8
  have HB8 : Hid (Below w.heap.size w w8) := bt HB5.out b8
  clear b8 HX HB5
  go_wp2_with fail
  refine (HA2.out _ HB8.out).mono ?_
  rintro e w9 ⟨rfl, b9⟩
  have HX9 : Hid (At w9 hb ⟨n, RT, now, SG⟩) := HX8.out.below b9
  have HB9 : Hid (Below w.heap.size w w9) := bt HB8.out b9
  clear b9 HX8 HB8
  go_wp2_with fail
  refine (cRd _).mono ?_
  rintro e wa ⟨rfl, rfl⟩
  clear cRd y1 y2 y3 y4
  have HC : Hid (∀ w', Below wa.heap.size wa w' → w'.cell? ⟨hb, 0, none⟩ = some (.int .i64 (n : Int)) ∧ w'.cell? ⟨hb, 1, none⟩ = some (.int .i64 RT)) := fun w' b' => ⟨(HX9.out.below b').size, (HX9.out.below b').root⟩
  obtain ⟨p0, p1⟩ := HC.out wa (Below.refl _ _)
  have e0 : wa.drew.cell? ⟨hb, 0, none⟩ = some (.int .i64 (n : Int)) := p0
  have e1 : wa.drew.cell? ⟨hb, 1, none⟩ = some (.int .i64 RT) := p1
  go_upto_region 18 with fail
  go_region_held3 (fun w' => w'.cell? ⟨hb, 0, none⟩ = some (.int .i64 (n : Int)) ∧ w'.cell? ⟨hb, 1, none⟩ = some (.int .i64 RT)) (first | exact ⟨s0, s1⟩ | exact ⟨e0, e1⟩ | go_keep) (first | (go_at_call 17; refine (HSm.out _).mono ?_; rintro e wb ⟨vb, rfl, ob, bb⟩; have HBb : Hid (Below wa.heap.size wa wb) := bt (Below.refl _ wa).drew bb; obtain ⟨s0, s1⟩ := HC.out wb HBb.out; obtain ⟨ab, cb, rfl, hrb, _⟩ := owns_row ob; have HRb : Hid (Row wb ab WY.length cb (ints WY)) := hrb; clear ob bb hrb) | (go_at_call 16; refine (HCk.out _ _ _ HRb.out).mono ?_; rintro e wc ⟨rfl, bc⟩; have HBc : Hid (Below wa.heap.size wa wc) := bt HBb.out bc; clear s0 s1 bc; obtain ⟨s0, s1⟩ := HC.out wc HBc.out))
  have HBd : Hid (Below w.heap.size w wc) := bt HB9.out HBc.out
  have HXd : Hid (At wc hb ⟨n, RT, now, SG⟩) := HX9.out.below HBc.out
  clear HB9 HX9 HC HBb HBc HRb s0 s1 p0 p1 e0 e1 HSm HCk HA1 HA2 c1 c2 hway z1
  go_upto_region 20 with fail
  by_cases c1 : old < 1
  · go_wp2_with fail
    go_ret
    exact ⟨rfl, HBd.out⟩
  by_cases c2 : (n : Int) < old
  · go_wp2_with fail
    go_ret
    exact ⟨rfl, HBd.out⟩
  obtain ⟨O, rfl⟩ : ∃ O : Nat, old = O := ⟨old.toNat, by omega⟩
  have cD1 := fun w' => WalkHeadRef.digits O (O : Int) w' rfl (by omega)
  have z1 := WalkHeadRef.dec_small O (by omega)
  have HQ1 : Hid ((⟨#[103, 114, 111, 119, 32]⟩ : ByteArray) ++ str (dec O) ++ ⟨#[32]⟩ ++ NN = str (wGrow ++ 32 :: (dec O ++ 32 :: dec n))) := by
    show str [103, 114, 111, 119, 32] ++ str (dec O) ++ str [32] ++ NN = _
    rw [← HNe.out, Nums.str_append, Nums.str_append, Nums.str_append]
    simp [wGrow]
  have HA1 : Hid (∀ w', Below w.heap.size w w' → Calls Tryz.prog 8 #[.slice a n cap, .int .i64 key, .int .i64 now, .string (⟨#[103, 114, 111, 119, 32]⟩ ++ str (dec O) ++ ⟨#[32]⟩ ++ NN)] w' fun e w'' => e = .returned (.tuple #[.string (str (sumsT (Grows.grow (leafsOf l) O true))), .nilIface]) ∧ Below w'.heap.size w' w'') := fun w' b => by
    rw [HQ1.out]
    have h := WalkSeAns.answer_any l a n cap key now (str (wGrow ++ 32 :: (dec O ++ 32 :: dec n))) w' (HR.out.below b) HZ.out (by rw [← HNe.out] at z2; rw [Nums.str_size] at z1 z2 ⊢; simp [wGrow]; omega) (HK.out.below b) (HY.out.below b)
    rw [Nums.str_data, ← hln, Serves.answer_grow hE (by omega) (by omega), hln] at h
    exact h
  have hgl : (Grows.grow (leafsOf l) O true).length ≤ 201 := by have := grow_le (leafsOf l) O (by omega) (by rw [Serves.leafs_len]; omega); rw [Serves.leafs_len] at this; omega
  have HSm : Hid (∀ w', Calls Tryz.prog 17 #[.string (str (sumsT (Grows.grow (leafsOf l) O true)))] w' fun e w'' => ∃ v, e = .returned v ∧ w''.ownsRow w'.heap.size 3 1 v (Grows.grow (leafsOf l) O true).length (ints (Grows.grow (leafsOf l) O true)) ∧ Below w'.heap.size w' w'') := fun w' => WalkSumsOf.sums_any _ w' (Grows.grow_valid _ _ _ _ (Nat.le_refl _) (by omega) (by rw [Serves.leafs_len]; omega) (GrowRight.leafs_valid l)) (by omega)
  have HCk : Hid (∀ w' a' c', Row w' a' (Grows.grow (leafsOf l) O true).length c' (ints (Grows.grow (leafsOf l) O true)) → Calls Tryz.prog 18 #[.int .i64 (rootE (l.take O)), .int .i64 (O : Int), .int .i64 RT, .int .i64 (n : Int), .slice a' (Grows.grow (leafsOf l) O true).length c'] w' fun e w'' => e = .returned .nilIface ∧ Below w'.heap.size w' w'') := fun w' a' c' h' => by
    have h := WalkGrowCheck.check_any (rootE (l.take O)) (O : Nat) (rootE l) (l.length : Nat) (Grows.grow (leafsOf l) O true) a' _ c' w' h' (by omega)
    rw [Serves.grew (Answers.log_ok hE).1 (by omega) (by omega), HRT.out, hln, errv0] at h
    exact h
  obtain ⟨ga, oa, rfl, _⟩ := HR.out.2.2 (by omega)
  have hcap : n ≤ cap := HR.out.2.1
  have hE2 := Serves.log_take hE O
  have hln2 : (l.take O).length = O := by rw [List.length_take]; omega
  have HHd : Hid (∀ w', Below w.heap.size w w' → Calls Tryz.prog 11 #[.slice (some ⟨ga, oa, none⟩) O cap, .int .i64 key, .int .i64 now] w' fun e w'' => e = .returned (.tuple #[.agg #[.int .i64 (O : Int), .int .i64 (rootE (l.take O)), .int .i64 now, .int .i64 (Heads.signOf (Answers.bare (l.take O) now) key)], .nilIface]) ∧ Below w'.heap.size w' w'') := fun w' b => by
    have h := WalkSe.head_any (l.take O) (some ⟨ga, oa, none⟩) O cap key now w' (wide_take (HR.out.below b) O (by omega)) (fun e he => HZ.out e (List.mem_of_mem_take he)) (HK.out.below b)
    rw [Serves.log_is hE2, hE2, hln2, errv0] at h
    exact h
  generalize str (sumsT (Grows.grow (leafsOf l) O true)) = SP2 at HA1 HSm
  generalize Grows.grow (leafsOf l) O true = WG at HSm HCk hgl
  generalize Heads.signOf (Answers.bare (l.take O) now) key = SG2 at HHd
  generalize rootE (l.take O) = RO at HHd HCk
  generalize str (dec O) = B at cD1 z1 HA1
  clear HQ1 hE2 hln2
  go_wp2_with fail
  refine (cD1 _).mono ?_
  rintro e wd ⟨rfl, rfl⟩
  have y1 : ¬ 9223372036854775807 < 5 + B.size := by omega
  have y2 : ¬ 9223372036854775807 < 5 + B.size + 1 := by omega
  have y3 : ¬ 9223372036854775807 < 5 + B.size + 1 + NN.size := by omega
  clear cD1
  go_wp2_with fail
  refine (HA1.out _ HBd.out).mono ?_
  rintro e we ⟨rfl, be⟩
  have HBe : Hid (Below w.heap.size w we) := bt HBd.out be
  have HXe : Hid (At we hb ⟨n, RT, now, SG⟩) := HXd.out.below be
  have i1 : (O : Int) ≤ (n : Int) := by omega
  have i2 : (O : Int) ≤ (cap : Int) := by omega
  have i3 : (0 : Int) ≤ (O : Int) := by omega
  clear be HBd HXd y1 y2 y3
  go_wp2_with fail
  refine (HHd.out _ HBe.out).mono ?_
  rintro e wf ⟨rfl, bf⟩
  have hx : At (wf.alloc (.cells #[.int .i64 (O : Int), .int .i64 RO, .int .i64 now, .int .i64 SG2] 31)) hb ⟨n, RT, now, SG⟩ := (HXe.out.below bf).alloc _
  have hy : At (wf.alloc (.cells #[.int .i64 (O : Int), .int .i64 RO, .int .i64 now, .int .i64 SG2] 31)) wf.heap.size ⟨O, RO, now, SG2⟩ := At.new wf O RO now SG2
  have bd := bt HBe.out bf
  replace bd := bd.alloc bd.size (.cells #[.int .i64 (O : Int), .int .i64 RO, .int .i64 now, .int .i64 SG2] 31)
  clear bf HHd HXe HBe
  go_upto_region 25 with fail
  generalize wf.alloc (.cells #[.int .i64 (O : Int), .int .i64 RO, .int .i64 now, .int .i64 SG2] 31) = wg at hx hy bd ⊢
  generalize wf.heap.size = hg at hy ⊢
  have HBg : Hid (Below w.heap.size w wg) := bd
  have HC : Hid (∀ w', Below wg.heap.size wg w' → w'.cell? ⟨hb, 0, none⟩ = some (.int .i64 (n : Int)) ∧ w'.cell? ⟨hb, 1, none⟩ = some (.int .i64 RT) ∧ w'.cell? ⟨hg, 1, none⟩ = some (.int .i64 RO)) := fun w' b' => ⟨(hx.below b').size, (hx.below b').root, (hy.below b').root⟩
  obtain ⟨p0, p1, p2⟩ := HC.out wg (Below.refl _ _)
  have e0 : wg.drew.cell? ⟨hb, 0, none⟩ = some (.int .i64 (n : Int)) := p0
  have e1 : wg.drew.cell? ⟨hb, 1, none⟩ = some (.int .i64 RT) := p1
  have e2 : wg.drew.cell? ⟨hg, 1, none⟩ = some (.int .i64 RO) := p2
  clear hx hy bd
  go_region_held3 (fun w' => w'.cell? ⟨hb, 0, none⟩ = some (.int .i64 (n : Int)) ∧ w'.cell? ⟨hb, 1, none⟩ = some (.int .i64 RT) ∧ w'.cell? ⟨hg, 1, none⟩ = some (.int .i64 RO)) (first | exact ⟨s0, s1, s2⟩ | exact ⟨e0, e1, e2⟩ | go_keep) (first | (go_at_call 17; refine (HSm.out _).mono ?_; rintro e wb ⟨vb, rfl, ob, bb⟩; have HBb : Hid (Below wg.heap.size wg wb) := bt (Below.refl _ wg).drew bb; obtain ⟨s0, s1, s2⟩ := HC.out wb HBb.out; obtain ⟨ab, cb, rfl, hrb, _⟩ := owns_row ob; have HRb : Hid (Row wb ab WG.length cb (ints WG)) := hrb; clear ob bb hrb) | (go_at_call 18; refine (HCk.out _ _ _ HRb.out).mono ?_; rintro e wc ⟨rfl, bc⟩; have HBc : Hid (Below wg.heap.size wg wc) := bt HBb.out bc; clear s0 s1 s2 bc; obtain ⟨s0, s1, s2⟩ := HC.out wc HBc.out))
  have HBz : Hid (Below w.heap.size w wc) := bt HBg.out HBc.out
  go_wp2_with fail
  go_ret
  exact ⟨rfl, HBz.out⟩

end Go.Proofs.YticadkggaanbjaaGreatDoor.WalkServeProves
