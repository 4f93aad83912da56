/-
  What the program's mirror does with a proof and with a head that it hears: takeProof, takeHead.
-/
import Derived.Test.YtigbbhojgajkjaiGreatDoorWalkMiGo
import Derived.Test.YtigbbhojgajkjaiGreatDoorGrowRun
namespace Go.Proofs.YtigbbhojgajkjaiGreatDoor.WalkMiTake
open Go.RowKit
open Lists (Row ints bt)
open Keeps (Kept owns_kept owns_base owns_row)
open Wides (Wide owns_wide)
open Heads (Head zero isKey verifyE)
open HeadVals (hv aggH sizeH)
open Entries (Entry entE entsE leafsOf)
open EntRows (cells cells_append)
open Errs (errv errv0 errv_pos)
open Mirrors (Mir Want rootE Ok headE headM proofE proofE0 proofM)
open MirObj (Lay fld foot put4)
open WalkMiGo (Turned gone)
open WalkHdLib (Tabs)

/-- all of them are fine -/
theorem all_fine {key : Int} {m : Mir} (ho : Ok key m) (hl : m.has ≤ 200) : entsE m.all = 0 := by
  refine Entries.ents_of (by show (m.own ++ m.waits).length ≤ 200; rw [List.length_append]; exact hl) fun e he => ?_
  rcases List.mem_append.1 he with he | he
  · exact ho.own e he
  · exact ho.waits e he
/-- what takeProof leaves of it -/
def proofG (m : Mir) (p : List Int) : Mir := if proofE0 m p = 0 then gone m else m

set_option maxHeartbeats 4000000 in
set_option maxRecDepth 100000 in
theorem proof_any {w : World} {B b : Nat} {key : Int} {m : Mir} {v1 v2 : Value} (h : Lay w B b key m v1 v2) (ho : Ok key m) (hn : m.next.size ≠ 0) (hh : (m.has : Int) = m.next.size) (prf : List Int) (a6 : Option Addr) (c6 : Nat) (h6 : Row w a6 prf.length c6 (ints prf)) (hl : prf.length ≤ 17592186043904) :
    Calls Tryz.prog 114 #[.pointer (some ⟨b, 0, none⟩), .slice a6 prf.length c6] w fun e w' => e = .returned (errv (proofE m prf)) ∧ Turned w B b key v1 v2 (proofG m prf) w' := by
  have hHas : m.has ≤ 200 := by have := (Mirrors.size_ok (ho.some hn).1).2; omega
  have HAF : Hid (entsE m.all = 0) := all_fine ho hHas
  have HOF : Hid (entsE m.own = 0) := Entries.ents_of ho.few ho.own
  have HL : Hid (Lay w B b key m v1 v2) := h
  have H6 : Hid (Row w a6 prf.length c6 (ints prf)) := h6
  have HPF : Hid (prf.length ≤ 17592186043904) := hl
  obtain ⟨a1, k1, rfl, _⟩ := owns_wide h.own
  clear h ho hn hh h6 hl hHas
  obtain ⟨P0, HP0⟩ : ∃ P0, Hid (proofE0 m prf = P0) := ⟨_, rfl⟩
  have HE : Hid (proofE m prf = if P0 = 0 then m.settledE else P0) := by show (if proofE0 m prf = 0 then m.settledE else proofE0 m prf) = _; rw [HP0.out]
  have HM : Hid (proofG m prf = if P0 = 0 then gone m else m) := by show (if proofE0 m prf = 0 then gone m else m) = _; rw [HP0.out]
  have HS : Hid (∀ w', Below w.heap.size w w' → w'.cell? ⟨b, 1, none⟩ = some (.slice a1 m.own.length k1) ∧ w'.cell? ⟨b, 3, none⟩ = some (.int .i64 m.next.size) ∧ w'.cell? ⟨b, 4, none⟩ = some (.int .i64 m.next.root)) := fun w' b' => by
    have l := HL.out.below b'
    exact ⟨l.row.cell (i := 1) (by omega), l.row.cell (i := 3) (by omega), l.row.cell (i := 4) (by omega)⟩
  have HCR : Hid (∀ w', Below w.heap.size w w' → Calls Tryz.prog 126 #[.pointer (some ⟨b, 0, none⟩)] w' fun e w'' => e = .returned (.int .i64 (rootE m.own)) ∧ Below w'.heap.size w' w'') := fun w' b' => WalkMiOne.root_any (HL.out.below b') HOF.out
  have HCG : Hid (∀ w', Below w.heap.size w w' → Calls Tryz.prog 130 #[.int .i64 (rootE m.own), .int .i64 (m.own.length : Int), .int .i64 m.next.root, .int .i64 m.next.size, .slice a6 prf.length c6] w' fun e w'' => e = .returned (errv P0) ∧ Below w'.heap.size w' w'') := fun w' b' => by
    rw [← HP0.out]
    exact WalkGrowCheck.check_any _ _ _ _ prf a6 prf.length c6 w' (H6.out.below b') HPF.out
  go_enter Tryz.func114, Tryz.ntmps114
  go_upto_region 1 with fail
  obtain ⟨s1, s3, s4⟩ := HS.out _ (Below.refl _ w).drew
  go_region_held (fun w' => w'.cell? ⟨b, 1, none⟩ = some (.slice a1 m.own.length k1) ∧ w'.cell? ⟨b, 3, none⟩ = some (.int .i64 m.next.size) ∧ w'.cell? ⟨b, 4, none⟩ = some (.int .i64 m.next.root)) (first | exact ⟨s1, s3, s4⟩ | go_keep)
    (first | (go_at_call 126; refine (HCR.out _ (Below.refl _ w).drew).mono ?_; rintro e w5 ⟨rfl, b5⟩; have HB5 : Hid (Below w.heap.size w w5) := bt (Below.refl _ w).drew b5; obtain ⟨s1, s3, s4⟩ := HS.out _ HB5.out; clear b5) | (go_at_call 130; refine (HCG.out _ HB5.out).mono ?_; rintro e w6 ⟨rfl, b6⟩; have HB6 : Hid (Below w.heap.size w w6) := bt HB5.out b6; obtain ⟨s1, s3, s4⟩ := HS.out _ HB6.out; clear b6))
  clear HCR HCG HS s1 s3 s4 HB5
  have L6 := HL.out.below HB6.out
  by_cases hp : P0 = 0
  · have HEM : Hid (proofE m prf = m.settledE ∧ proofG m prf = gone m) := ⟨by rw [HE.out, if_pos hp], by rw [HM.out, if_pos hp]⟩
    have cG := WalkMiGo.goOn_any L6 HAF.out
    rw [hp, errv0]
    clear hp L6 HE HM HP0
    generalize m.settledE = T at *
    go_wp2_with fail
    refine cG.mono ?_
    rintro e w7 ⟨rfl, hT⟩
    have HT : Hid (Turned w B b key (.slice a1 m.own.length k1) v2 (gone m) w7) := hT.from HB6.out
    clear cG hT
    go_wp2_with fail
    go_ret
    exact ⟨by rw [HEM.out.1]; rfl, by rw [HEM.out.2]; exact HT.out⟩
  · have HEM : Hid (proofE m prf = P0 ∧ proofG m prf = m) := ⟨by rw [HE.out, if_neg hp], by rw [HM.out, if_neg hp]⟩
    have HT : Hid (Turned w B b key (.slice a1 m.own.length k1) v2 m w6) := Turned.same HL.out HB6.out
    have HN : Hid (errv P0 = .iface 70 (.int .i64 (P0 : Nat))) := errv_pos _ hp
    rw [HN.out]
    clear hp L6 HE HM HP0
    go_wp2_with fail
    go_ret
    exact ⟨by rw [HEM.out.1, HN.out]; rfl, by rw [HEM.out.2]; exact HT.out⟩

/-- of a head that was verified, and of the one by which it went, the one to go by -/
theorem better_is {key : Int} {m : Mir} (ho : Ok key m) {x : Head} (hv : verifyE x key = 0) : Heads.betterE x m.head = 0 ∧ Heads.betterV x m.head = Heads.more x m.head := by
  have h1 : Heads.headE x = 0 := Heads.headE_zero.2 (Mirrors.verify_ok hv).2.1
  have h2 : Heads.headE m.head = 0 := by
    rcases ho.head with ⟨q, _⟩ | ⟨q, _⟩
    · rw [q]; decide
    · exact Heads.headE_zero.2 (Mirrors.verify_ok q).2.1
  have h3 : Heads.betterE x m.head = 0 := by unfold Heads.betterE; rw [if_pos h1, h2]
  refine ⟨h3, ?_⟩
  unfold Heads.betterV
  rw [h3]
  simp

set_option maxHeartbeats 8000000 in
set_option maxRecDepth 100000 in
theorem head_any {w : World} {B b : Nat} {key : Int} {m : Mir} {v1 v2 : Value} (h : Lay w B b key m v1 v2) (hT : Tabs w) (ho : Ok key m) (x : Head) :
    Calls Tryz.prog 112 #[.pointer (some ⟨b, 0, none⟩), hv x] w fun e w' => e = .returned (errv (headE key m x)) ∧ Turned w B b key v1 v2 (headM key m x) w' := by
  have HOF : Hid (entsE m.own = 0) := Entries.ents_of ho.few ho.own
  have HL : Hid (Lay w B b key m v1 v2) := h
  have HTb : Hid (Tabs w) := hT
  have hown := ho.few
  have HBE : Hid (verifyE x key = 0 → Heads.betterE x m.head = 0 ∧ Heads.betterV x m.head = Heads.more x m.head) := fun q => better_is ho q
  obtain ⟨V0, HV0⟩ : ∃ V0, Hid (verifyE x key = V0) := ⟨_, rfl⟩
  have HE0 : Hid (headE key m x = if V0 = 0 then (if x.size < m.own.length ∨ (x.size = m.own.length ∧ x.root ≠ rootE m.own) then 3 else 0) else V0) := by show _ = _; unfold headE; rw [HV0.out]
  have HM0 : Hid (headM key m x = if headE key m x = 0 then (if (m.own.length : Int) < x.size then { m with next := x } else if Heads.more x m.head = true then { m with head := x } else m) else m) := rfl
  have HCV : Hid (∀ w', Below w.heap.size w w' → Calls Tryz.prog 36 #[hv x, .int .i64 key] w' fun e w'' => e = .returned (errv V0) ∧ Below w'.heap.size w' w'') := fun w' b' => by
    rw [← HV0.out]
    exact WalkHdSign.verify_any x key w' (HTb.out.below b')
  have HCB : Hid (∀ w', Calls Tryz.prog 127 #[hv x, hv m.head] w' fun e w'' => e = .returned (.tuple #[.bool (Heads.betterV x m.head), errv (Heads.betterE x m.head)]) ∧ Below w'.heap.size w' w'') := fun w' => WalkHdOne.better_any x m.head w'
  have HCR : Hid (∀ w', Below w.heap.size w w' → Calls Tryz.prog 126 #[.pointer (some ⟨b, 0, none⟩)] w' fun e w'' => e = .returned (.int .i64 (rootE m.own)) ∧ Below w'.heap.size w' w'') := fun w' b' => WalkMiOne.root_any (HL.out.below b') HOF.out
  obtain ⟨a1, k1, rfl, _⟩ := owns_wide h.own
  clear h hT ho
  have aH := aggH
  have zH := sizeH
  obtain ⟨hs, hrt, ht, hsg⟩ := x
  unfold hv at HCV HCB ⊢
  simp only at HE0 HM0 HCV HCB ⊢
  go_enter Tryz.func112, Tryz.ntmps112
  go_upto_region 1 with fail
  have HD0 : Hid (HeadVals.At (w.alloc (.cells #[.int .i64 hs, .int .i64 hrt, .int .i64 ht, .int .i64 hsg] 24)) w.heap.size ⟨hs, hrt, ht, hsg⟩) := HeadVals.At.new w hs hrt ht hsg
  have HB3 : Hid (Below w.heap.size w (w.alloc (.cells #[.int .i64 hs, .int .i64 hrt, .int .i64 ht, .int .i64 hsg] 24))) := (Below.refl _ _).alloc (Nat.le_refl _) _
  generalize w.alloc (.cells #[.int .i64 hs, .int .i64 hrt, .int .i64 ht, .int .i64 hsg] 24) = w3 at HD0 HB3 ⊢
  obtain ⟨ph, HPH⟩ : ∃ ph, Hid (w.heap.size = ph) := ⟨_, rfl⟩
  have HD : Hid (HeadVals.At w3 ph ⟨hs, hrt, ht, hsg⟩) := by rw [← HPH.out]; exact HD0.out
  rw [show w.heap.size = ph from HPH.out]
  clear HD0
  have HS : Hid (∀ w', Below w3.heap.size w3 w' → (w'.cell? ⟨b, 0, none⟩ = some (.int .i64 key) ∧ w'.cell? ⟨b, 1, none⟩ = some (.slice a1 m.own.length k1)) ∧ w'.cell? ⟨ph, 0, none⟩ = some (.int .i64 hs) ∧ w'.cell? ⟨ph, 1, none⟩ = some (.int .i64 hrt) ∧ w'.cell? ⟨ph, 2, none⟩ = some (.int .i64 ht) ∧ w'.cell? ⟨ph, 3, none⟩ = some (.int .i64 hsg)) := fun w' b' => by
    have l := HL.out.below (bt HB3.out b')
    have d := HD.out.below b'
    exact ⟨⟨l.row.cell (i := 0) (by omega), l.row.cell (i := 1) (by omega)⟩, d.size, d.root, d.time, d.sign⟩
  obtain ⟨⟨s0, s1⟩, t0, t1, t2, t3⟩ := HS.out _ (Below.refl _ w3).drew
  go_region_held (fun w' => w'.cell? ⟨b, 0, none⟩ = some (.int .i64 key) ∧ w'.cell? ⟨ph, 0, none⟩ = some (.int .i64 hs) ∧ w'.cell? ⟨ph, 1, none⟩ = some (.int .i64 hrt) ∧ w'.cell? ⟨ph, 2, none⟩ = some (.int .i64 ht) ∧ w'.cell? ⟨ph, 3, none⟩ = some (.int .i64 hsg)) (first | exact ⟨s0, t0, t1, t2, t3⟩ | go_keep)
    (first | (go_at_call 36; refine (HCV.out _ (HB3.out.drew)).mono ?_; rintro e w4 ⟨rfl, b4⟩; have HB4 : Hid (Below w3.heap.size w3 w4) := bt (Below.refl _ w3).drew b4; obtain ⟨⟨s0, s1⟩, t0, t1, t2, t3⟩ := HS.out _ HB4.out; clear b4))
  clear HCV s0 s1 t0 t1 t2 t3
  have HBw : Hid (Below w.heap.size w w4) := bt HB3.out HB4.out
  have HSw : Hid (∀ w', Below w4.heap.size w4 w' → (w'.cell? ⟨b, 0, none⟩ = some (.int .i64 key) ∧ w'.cell? ⟨b, 1, none⟩ = some (.slice a1 m.own.length k1)) ∧ w'.cell? ⟨ph, 0, none⟩ = some (.int .i64 hs) ∧ w'.cell? ⟨ph, 1, none⟩ = some (.int .i64 hrt) ∧ w'.cell? ⟨ph, 2, none⟩ = some (.int .i64 ht) ∧ w'.cell? ⟨ph, 3, none⟩ = some (.int .i64 hsg)) := fun w' b' => HS.out w' (bt HB4.out b')
  clear HS HB3
  by_cases hv0 : V0 ≠ 0
  · have HEM : Hid (headE key m ⟨hs, hrt, ht, hsg⟩ = V0 ∧ headM key m ⟨hs, hrt, ht, hsg⟩ = m) := by
      have h1 : headE key m ⟨hs, hrt, ht, hsg⟩ = V0 := by rw [HE0.out, if_neg hv0]
      exact ⟨h1, by rw [HM0.out, h1, if_neg hv0]⟩
    have HN : Hid (errv V0 = .iface 70 (.int .i64 (V0 : Nat))) := errv_pos _ hv0
    have HTu : Hid (Turned w B b key (.slice a1 m.own.length k1) v2 m w4) := Turned.same HL.out HBw.out
    rw [HN.out]
    clear hv0 HE0 HM0 HV0
    go_wp2_with fail
    go_ret
    exact ⟨by rw [HEM.out.1, HN.out]; rfl, by rw [HEM.out.2]; exact HTu.out⟩
  have hv0' : V0 = 0 := Decidable.not_not.1 hv0
  have HBT := HBE.out (by rw [HV0.out]; exact hv0')
  have HBV : Hid (Heads.betterE ⟨hs, hrt, ht, hsg⟩ m.head = 0 ∧ Heads.betterV ⟨hs, hrt, ht, hsg⟩ m.head = Heads.more ⟨hs, hrt, ht, hsg⟩ m.head) := HBT
  have HE1 : Hid (headE key m ⟨hs, hrt, ht, hsg⟩ = if hs < m.own.length ∨ (hs = m.own.length ∧ hrt ≠ rootE m.own) then 3 else 0) := by show _ = _; rw [HE0.out, if_pos hv0']
  rw [hv0', errv0]
  clear hv0 hv0' HBT HBE HV0 HE0
  obtain ⟨⟨s0, s1⟩, t0, t1, t2, t3⟩ := HSw.out _ (Below.refl _ w4)
  go_upto_region 4 with fail
  by_cases hgt : (m.own.length : Int) < hs
  · have HEM : Hid (headE key m ⟨hs, hrt, ht, hsg⟩ = 0 ∧ headM key m ⟨hs, hrt, ht, hsg⟩ = { m with next := ⟨hs, hrt, ht, hsg⟩ }) := by
      have h1 : headE key m ⟨hs, hrt, ht, hsg⟩ = 0 := by rw [HE1.out, if_neg (by omega)]
      exact ⟨h1, by rw [HM0.out, if_pos h1, if_pos hgt]⟩
    clear HE1 HM0 HBV HCB HCR
    go_quiet (fail)
    have b5 : Below w4.heap.size w4 (w4.drewN nq) := ⟨rfl, rfl, rfl, Nat.le_refl _, fun _ _ => rfl⟩
    have HB5 : Hid (Below w.heap.size w (w4.drewN nq)) := bt HBw.out b5
    have HS5 := (HSw.out _ b5).2
    clear s0 s1 t0 t1 t2 t3 b5 HSw
    generalize w4.drewN nq = w5 at HB5 HS5 ⊢
    obtain ⟨t0, t1, t2, t3⟩ := HS5
    have L5 := HL.out.below HB5.out
    have c3 : w5.cell? ⟨b, 3, none⟩ = some (.int .i64 m.next.size) := L5.row.cell (i := 3) (by omega)
    have c4 : w5.cell? ⟨b, 4, none⟩ = some (.int .i64 m.next.root) := L5.row.cell (i := 4) (by omega)
    have c5 : w5.cell? ⟨b, 5, none⟩ = some (.int .i64 m.next.time) := L5.row.cell (i := 5) (by omega)
    have c6 : w5.cell? ⟨b, 6, none⟩ = some (.int .i64 m.next.sign) := L5.row.cell (i := 6) (by omega)
    have f3 := L5.row.frozen 3
    have f4 := L5.row.frozen 4
    have f5 := L5.row.frozen 5
    have f6 := L5.row.frozen 6
    have HFIN : Hid (Turned w B b key (.slice a1 m.own.length k1) v2 { m with next := ⟨hs, hrt, ht, hsg⟩ } (put4 w5 b 3 ⟨hs, hrt, ht, hsg⟩)) := ⟨_, _, L5.setNext ⟨hs, hrt, ht, hsg⟩, ((Kept.of_below (fun k => k = b) HB5.out).trans (MirObj.kept_put4 w5 b 3 _) fun _ q => .inl q).mono fun _ q => .inl q, fun _ q => .inl q⟩
    unfold put4 at HFIN
    simp only [Nat.reduceAdd] at HFIN
    clear L5 hgt
    go_wp2_with fail
    go_ret
    exact ⟨by rw [HEM.out.1]; rfl, by rw [HEM.out.2]; exact HFIN.out⟩
  have hd1 : decide ((m.own.length : Int) < hs) = false := decide_eq_false hgt
  have HM1 : Hid (headM key m ⟨hs, hrt, ht, hsg⟩ = if headE key m ⟨hs, hrt, ht, hsg⟩ = 0 then (if Heads.more ⟨hs, hrt, ht, hsg⟩ m.head = true then { m with head := ⟨hs, hrt, ht, hsg⟩ } else m) else m) := by
    show _ = _
    rw [HM0.out, if_neg hgt]
  clear HM0
  have HGT : Hid (¬ (m.own.length : Int) < hs) := hgt
  clear hgt
  go_quiet (fail)
  have b5 : Below w4.heap.size w4 (w4.drewN nq) := ⟨rfl, rfl, rfl, Nat.le_refl _, fun _ _ => rfl⟩
  have HB5 : Hid (Below w.heap.size w (w4.drewN nq)) := bt HBw.out b5
  have HS5 : Hid (∀ w', Below (w4.drewN nq).heap.size (w4.drewN nq) w' → (w'.cell? ⟨b, 1, none⟩ = some (.slice a1 m.own.length k1)) ∧ w'.cell? ⟨ph, 0, none⟩ = some (.int .i64 hs) ∧ w'.cell? ⟨ph, 1, none⟩ = some (.int .i64 hrt) ∧ w'.cell? ⟨ph, 2, none⟩ = some (.int .i64 ht) ∧ w'.cell? ⟨ph, 3, none⟩ = some (.int .i64 hsg)) := fun w' b' => ⟨(HSw.out _ (bt b5 b')).1.2, (HSw.out _ (bt b5 b')).2⟩
  clear s0 s1 t0 t1 t2 t3 b5 HSw hd1
  generalize w4.drewN nq = w5 at HB5 HS5 ⊢
  obtain ⟨s1, t0, t1, t2, t3⟩ := HS5.out _ (Below.refl _ _)
  by_cases hlt : hs < (m.own.length : Int)
  · have HEM : Hid (headE key m ⟨hs, hrt, ht, hsg⟩ = 3 ∧ headM key m ⟨hs, hrt, ht, hsg⟩ = m) := by
      have h1 : headE key m ⟨hs, hrt, ht, hsg⟩ = 3 := by rw [HE1.out, if_pos (.inl hlt)]
      exact ⟨h1, by rw [HM1.out, if_neg (by rw [h1]; simp)]⟩
    have hd2 : decide (hs < (m.own.length : Int)) = true := decide_eq_true hlt
    have HFIN : Hid (∀ w', Below w5.heap.size w5 w' → Turned w B b key (.slice a1 m.own.length k1) v2 m w') := fun w' b' => Turned.same HL.out (bt HB5.out b')
    clear HE1 HM1 HBV HCB HCR hlt
    go_upto_region 7 with fail
    go_quiet (fail)
    go_wp2_with fail
    go_ret
    exact ⟨by rw [HEM.out.1]; rfl, by rw [HEM.out.2]; exact HFIN.out _ ⟨rfl, rfl, rfl, Nat.le_refl _, fun _ _ => rfl⟩⟩
  have hd2 : decide (hs < (m.own.length : Int)) = false := decide_eq_false hlt
  have HEQ : Hid (hs = (m.own.length : Int)) := by have := HGT.out; show _ = _; omega
  clear hlt HGT
  obtain ⟨s1', t0', t1', t2', t3'⟩ := HS5.out _ (Below.refl _ w5).drew
  go_upto_region 7 with fail
  go_region_held (fun w' => w'.cell? ⟨b, 1, none⟩ = some (.slice a1 m.own.length k1) ∧ w'.cell? ⟨ph, 0, none⟩ = some (.int .i64 hs) ∧ w'.cell? ⟨ph, 1, none⟩ = some (.int .i64 hrt)) (first | exact ⟨s1', t0', t1'⟩ | go_keep)
    (first | (go_at_call 126; refine (HCR.out _ (HB5.out.drew)).mono ?_; rintro e w6 ⟨rfl, b6⟩; have HB6 : Hid (Below w5.heap.size w5 w6) := bt (Below.refl _ w5).drew b6; obtain ⟨s1', t0', t1', t2', t3'⟩ := HS5.out _ HB6.out; clear b6))
  clear s1 t0 t1 t2 t3 s1' t0' t1' t2' t3' hd2 HCR
  have HBW6 : Hid (Below w.heap.size w w6) := bt HB5.out HB6.out
  by_cases hrr : hrt = rootE m.own
  rotate_left
  · have HEM : Hid (headE key m ⟨hs, hrt, ht, hsg⟩ = 3 ∧ headM key m ⟨hs, hrt, ht, hsg⟩ = m) := by
      have h1 : headE key m ⟨hs, hrt, ht, hsg⟩ = 3 := by rw [HE1.out, if_pos (.inr ⟨HEQ.out, hrr⟩)]
      exact ⟨h1, by rw [HM1.out, if_neg (by rw [h1]; simp)]⟩
    have e1 : (hrt != rootE m.own) = true := by simpa using hrr
    have HFIN : Hid (Turned w B b key (.slice a1 m.own.length k1) v2 m w6) := Turned.same HL.out HBW6.out
    clear HE1 HM1 HBV HCB hrr
    go_wp2_with fail
    go_ret
    exact ⟨by rw [HEM.out.1]; rfl, by rw [HEM.out.2]; exact HFIN.out⟩
  have e1 : (hrt != rootE m.own) = false := by rw [hrr]; simp
  obtain ⟨V, HV⟩ : ∃ V, Hid (Heads.betterV ⟨hs, hrt, ht, hsg⟩ m.head = V) := ⟨_, rfl⟩
  have HEM : Hid (headE key m ⟨hs, hrt, ht, hsg⟩ = 0 ∧ headM key m ⟨hs, hrt, ht, hsg⟩ = if V = true then { m with head := ⟨hs, hrt, ht, hsg⟩ } else m) := by
    have h1 : headE key m ⟨hs, hrt, ht, hsg⟩ = 0 := by rw [HE1.out, if_neg (fun q => q.elim (fun q => by have := HEQ.out; omega) fun q => q.2 hrr)]
    exact ⟨h1, by rw [HM1.out, if_pos h1, ← HBV.out.2, HV.out]⟩
  have HCB2 : Hid (∀ w', Calls Tryz.prog 127 #[.agg #[.int .i64 hs, .int .i64 hrt, .int .i64 ht, .int .i64 hsg], .agg #[.int .i64 m.head.size, .int .i64 m.head.root, .int .i64 m.head.time, .int .i64 m.head.sign]] w' fun e w'' => e = .returned (.tuple #[.bool V, .nilIface]) ∧ Below w'.heap.size w' w'') := fun w' => by
    have h := HCB.out w'
    rw [HBV.out.1, HV.out, errv0] at h
    exact h
  have HS6 : Hid (∀ w', Below w6.heap.size w6 w' → (w'.cell? ⟨b, 7, none⟩ = some (.int .i64 m.head.size) ∧ w'.cell? ⟨b, 8, none⟩ = some (.int .i64 m.head.root) ∧ w'.cell? ⟨b, 9, none⟩ = some (.int .i64 m.head.time) ∧ w'.cell? ⟨b, 10, none⟩ = some (.int .i64 m.head.sign)) ∧ w'.cell? ⟨ph, 0, none⟩ = some (.int .i64 hs) ∧ w'.cell? ⟨ph, 1, none⟩ = some (.int .i64 hrt) ∧ w'.cell? ⟨ph, 2, none⟩ = some (.int .i64 ht) ∧ w'.cell? ⟨ph, 3, none⟩ = some (.int .i64 hsg)) := fun w' b' => by
    have l := HL.out.below (bt HBW6.out b')
    exact ⟨⟨l.row.cell (i := 7) (by omega), l.row.cell (i := 8) (by omega), l.row.cell (i := 9) (by omega), l.row.cell (i := 10) (by omega)⟩, (HS5.out _ (bt HB6.out b')).2⟩
  clear HE1 HM1 HBV HCB hrr HS5 HEQ HV
  go_upto_region 9 with fail
  obtain ⟨⟨g7, g8, g9, g10⟩, t0, t1, t2, t3⟩ := HS6.out _ (Below.refl _ w6).drew
  go_region_held (fun w' => w'.cell? ⟨b, 7, none⟩ = some (.int .i64 m.head.size) ∧ w'.cell? ⟨b, 8, none⟩ = some (.int .i64 m.head.root) ∧ w'.cell? ⟨b, 9, none⟩ = some (.int .i64 m.head.time) ∧ w'.cell? ⟨b, 10, none⟩ = some (.int .i64 m.head.sign) ∧ w'.cell? ⟨ph, 0, none⟩ = some (.int .i64 hs) ∧ w'.cell? ⟨ph, 1, none⟩ = some (.int .i64 hrt) ∧ w'.cell? ⟨ph, 2, none⟩ = some (.int .i64 ht) ∧ w'.cell? ⟨ph, 3, none⟩ = some (.int .i64 hsg)) (first | exact ⟨g7, g8, g9, g10, t0, t1, t2, t3⟩ | go_keep)
    (first | (go_at_call 127; refine (HCB2.out _).mono ?_; rintro e w7 ⟨rfl, b7⟩; have HB7 : Hid (Below w6.heap.size w6 w7) := bt (Below.refl _ w6).drew b7; obtain ⟨⟨g7, g8, g9, g10⟩, t0, t1, t2, t3⟩ := HS6.out _ HB7.out; clear b7))
  have HBW7 : Hid (Below w.heap.size w w7) := bt HBW6.out HB7.out
  have L7 := HL.out.below HBW7.out
  cases V with
  | false =>
    have HEF : Hid (headM key m ⟨hs, hrt, ht, hsg⟩ = m) := by rw [HEM.out.2]; rfl
    have HFIN : Hid (Turned w B b key (.slice a1 m.own.length k1) v2 m w7) := Turned.same HL.out HBW7.out
    clear L7 g7 g8 g9 g10 t0 t1 t2 t3 HS6
    go_wp2_with fail
    go_ret
    exact ⟨by rw [HEM.out.1]; rfl, by rw [HEF.out]; exact HFIN.out⟩
  | true =>
    have HEF : Hid (headM key m ⟨hs, hrt, ht, hsg⟩ = { m with head := ⟨hs, hrt, ht, hsg⟩ }) := by rw [HEM.out.2]; rfl
    have f7 := L7.row.frozen 7
    have f8 := L7.row.frozen 8
    have f9 := L7.row.frozen 9
    have f10 := L7.row.frozen 10
    have HFIN : Hid (Turned w B b key (.slice a1 m.own.length k1) v2 { m with head := ⟨hs, hrt, ht, hsg⟩ } (put4 w7 b 7 ⟨hs, hrt, ht, hsg⟩)) := ⟨_, _, L7.setHead ⟨hs, hrt, ht, hsg⟩, ((Kept.of_below (fun k => k = b) HBW7.out).trans (MirObj.kept_put4 w7 b 7 _) fun _ q => .inl q).mono fun _ q => .inl q, fun _ q => .inl q⟩
    unfold put4 at HFIN
    simp only [Nat.reduceAdd] at HFIN
    clear L7 HS6
    go_wp2_with fail
    go_ret
    exact ⟨by rw [HEM.out.1]; rfl, by rw [HEF.out]; exact HFIN.out⟩

end Go.Proofs.YtigbbhojgajkjaiGreatDoor.WalkMiTake
