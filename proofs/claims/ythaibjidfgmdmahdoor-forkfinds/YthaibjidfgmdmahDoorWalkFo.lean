/-
  Package fork: whether two heads go together by a proof, and the first two of a list that prove that a log lies.
-/
import Derived.Test.YthaibjidfgmdmahDoorWalkFoOne
import Derived.Test.YthaibjidfgmdmahDoorWalkGrow
import Derived.Test.YthaibjidfgmdmahDoorWalkTold
namespace Go.Proofs.YthaibjidfgmdmahDoor.WalkFo
open Go.RowKit
open Lists (bt Row ints)
open Wides (Wide)
open Heads (Head verifyE)
open HeadVals (hv aggH sizeH At)
open HeadList (cells)
open Errs (errv errv0 errv_pos)
open WalkTold (Laid)
open GrowsE (growE)
open Forks (lies bothE provesV allE checkE checkV findE findP pairF pair clashAt)

/-- what a check of a proof found -/
def holdE (e : Nat) : Nat := if e = 8 then 0 else e

set_option maxHeartbeats 2000000 in
theorem holds_any (n : Nat) (w : World) (hg : Laid w) : Calls Tryd.prog 36 #[errv n] w fun e w' => e = .returned (.tuple #[.bool (decide (n = 0)), errv (holdE n)]) ∧ Below w.heap.size w w' := by
  by_cases h0 : n = 0
  · subst h0
    rw [errv0, show decide ((0 : Nat) = 0) = true from rfl, show errv (holdE 0) = .nilIface from rfl]
    have bel : Below w.heap.size w (w.alloc (.cells #[.int .i64 0] 68)) := (Below.refl _ _).alloc (Nat.le_refl _) _
    go_enter Tryd.func36, Tryd.ntmps36
    go_wp2_with fail
    refine (WalkTold.as_nil _ _).mono ?_
    rintro e w1 ⟨rfl, rfl⟩
    go_wp2_with fail
    go_ret2
    exact ⟨rfl, bel⟩
  · have hlt : 0 < w.heap.size := by
      rcases Nat.lt_or_ge 0 w.heap.size with h | h
      · exact h
      · simp [Laid, World.cell?, Array.getElem?_eq_none h] at hg
    have hgA : Laid (w.alloc (.cells #[.int .i64 0] 68)) := by
      show (w.alloc _).cell? _ = _
      rw [World.cell?_alloc_lt _ _ ⟨0, 0, none⟩ hlt]; exact hg
    have htA : (w.alloc (.cells #[.int .i64 0] 68)).cell? ⟨w.heap.size, 0, none⟩ = some (.int .i64 0) := by simp
    have hfA : (w.alloc (.cells #[.int .i64 0] 68)).frozen? ⟨w.heap.size, 0, none⟩ = false := by simp
    rw [errv_pos _ h0, decide_eq_false h0]
    have HF : Hid (n ≠ 8 → errv (holdE n) = .iface 68 (.int .i64 n)) := fun h => by
      unfold holdE
      rw [if_neg h]
      exact errv_pos _ h0
    have HZ : Hid (n = 8 → errv (holdE n) = .nilIface) := fun h => by
      unfold holdE
      rw [if_pos h]
      rfl
    clear h0 hg
    go_enter Tryd.func36, Tryd.ntmps36
    go_wp2_with fail
    refine (WalkTold.as_hit _ _ (.int .i64 0) _ hgA htA hfA).mono ?_
    rintro e w1 ⟨rfl, hw⟩
    have bel : Below w.heap.size w w1 := by
      rw [hw]
      repeat (first | exact Below.refl _ _ | refine Below.setCell ?_ (by simp) _ | refine Below.alloc ?_ (by simp; try omega) _)
    have hc : w1.cell? ⟨w.heap.size, 0, none⟩ = some (.int .i64 n) := by
      rw [hw]
      refine World.cell?_setCell_same _ _ _ (?_ : _ = some (.int .i64 0))
      rw [World.cell?_alloc_lt _ _ ⟨w.heap.size, 0, none⟩ (by simp; omega), World.cell?_alloc_lt _ _ ⟨w.heap.size, 0, none⟩ (by simp; omega), World.cell?_alloc_lt _ _ ⟨w.heap.size, 0, none⟩ (by simp; omega), World.cell?_alloc_lt _ _ ⟨w.heap.size, 0, none⟩ (by simp)]
      exact htA
    clear hw hgA htA hfA hlt
    by_cases h8 : n = 8
    · have e8 : ((n : Int) == 8) = true := by simp; omega
      have HN := HZ.out h8
      clear h8 HF HZ
      go_wp2_with fail
      go_ret2
      exact ⟨by rw [HN]; rfl, bel⟩
    · have e8 : ((n : Int) == 8) = false := by simp; omega
      have HN := HF.out h8
      clear h8 HF HZ
      go_wp2_with fail
      go_ret2
      exact ⟨by rw [HN]; rfl, bel⟩

set_option maxHeartbeats 4000000 in
theorem check_any (a b : Head) (key : Int) (p : List Int) (x : Option Addr) (n cap : Nat) (w : World) (hr : Row w x n cap (ints p)) (hm : n ≤ 17592186043904) (hL : Laid w) (hA : Asks w) :
    Calls Tryd.prog 17 #[hv a, hv b, .int .i64 key, .slice x n cap] w fun e w' => e = .returned (.tuple #[.bool (checkV a b key p), errv (checkE a b key p)]) ∧ Below w.heap.size w w' := by
  have hln : p.length = n := by rw [← hr.1, Lists.ints_length]
  have HT : Hid (∀ w', Below w.heap.size w w' → Asks w') := fun w' b => hA.below b
  have HP : Hid (∀ w', Calls Tryd.prog 30 #[hv a, hv b] w' fun e w'' => e = .returned (.bool (lies a b)) ∧ Below w'.heap.size w' w'') := fun w' => parted_any a b w'
  have HC : Hid (∀ x w', Below w.heap.size w w' → Wide 4 w' x 2 2 (cells [a, b]) → Calls Tryd.prog 29 #[.int .i64 key, .slice x 2 2] w' fun e w'' => e = .returned (errv (bothE a b key)) ∧ Below w'.heap.size w' w'') := fun x w' b' r => by
    have h := all_any _ x 2 2 key w' r (by decide) (HT.out w' b')
    rw [all_two] at h
    exact h
  have HG : Hid (∀ w', Below w.heap.size w w' → Calls Tryd.prog 37 #[.int .i64 a.root, .int .i64 a.size, .int .i64 b.root, .int .i64 b.size, .slice x n cap] w' fun e w'' => e = .returned (errv (growE a.root a.size b.root b.size p)) ∧ Below w'.heap.size w' w'') := fun w' b' => WalkGrow.check_any a.root a.size b.root b.size p x n cap w' (hr.below b') hm
  have HH : Hid (∀ w', Below w.heap.size w w' → Calls Tryd.prog 36 #[errv (growE a.root a.size b.root b.size p)] w' fun e w'' => e = .returned (.tuple #[.bool (decide (growE a.root a.size b.root b.size p = 0)), errv (holdE (growE a.root a.size b.root b.size p))]) ∧ Below w'.heap.size w' w'') := fun w' b' => holds_any _ w' (hL.below b')
  have H1 : Hid (bothE a b key ≠ 0 → checkV a b key p = false ∧ checkE a b key p = bothE a b key) := fun h => ⟨if_pos h, if_pos h⟩
  have H2 : Hid (bothE a b key = 0 → b.size < a.size → checkV a b key p = false ∧ checkE a b key p = 3) := fun h h2 => by
    unfold Forks.checkV Forks.checkE
    rw [if_neg (by omega), if_pos h2, if_neg (by omega), if_pos h2]
    exact ⟨rfl, rfl⟩
  have H3 : Hid (bothE a b key = 0 → a.size = b.size → 0 < n → checkV a b key p = false ∧ checkE a b key p = 3) := fun h h2 h3 => by
    unfold Forks.checkV Forks.checkE
    have hp : p ≠ [] := fun q => by rw [q] at hln; simp at hln; omega
    rw [if_neg (by omega), if_neg (by omega), if_neg (by omega), if_pos h2, if_neg hp, if_neg (by omega), if_neg (by omega), if_neg (by omega), if_pos h2, if_neg hp]
    exact ⟨rfl, rfl⟩
  have H4 : Hid (bothE a b key = 0 → a.size = b.size → n = 0 → checkV a b key p = !lies a b ∧ checkE a b key p = 0) := fun h h2 h3 => by
    unfold Forks.checkV Forks.checkE
    have hp : p = [] := List.length_eq_zero_iff.1 (by omega)
    rw [if_neg (by omega), if_neg (by omega), if_neg (by omega), if_pos h2, if_pos hp, if_neg (by omega), if_neg (by omega), if_neg (by omega), if_pos h2, if_pos hp]
    refine ⟨?_, rfl⟩
    unfold Forks.lies
    by_cases q : a.root = b.root
    · rw [decide_eq_true q, decide_eq_false fun z => z.2 q]; rfl
    · rw [decide_eq_false q, decide_eq_true ⟨h2, q⟩]; rfl
  have H5 : Hid (bothE a b key = 0 → a.size < b.size → a.size = 0 → checkV a b key p = true ∧ checkE a b key p = 0) := fun h h2 h3 => by
    unfold Forks.checkV Forks.checkE
    rw [if_neg (by omega), if_neg (by omega), if_pos ⟨h3, by omega⟩, if_neg (by omega), if_neg (by omega), if_pos ⟨h3, by omega⟩]
    exact ⟨rfl, rfl⟩
  have H6 : Hid (bothE a b key = 0 → a.size < b.size → a.size ≠ 0 → checkV a b key p = decide (growE a.root a.size b.root b.size p = 0) ∧ checkE a b key p = holdE (growE a.root a.size b.root b.size p)) := fun h h2 h3 => by
    unfold Forks.checkV Forks.checkE
    rw [if_neg (by omega), if_neg (by omega), if_neg (by omega), if_neg (by omega), if_neg (by omega), if_neg (by omega), if_neg (by omega), if_neg (by omega)]
    exact ⟨rfl, rfl⟩
  obtain ⟨a0, a1, a2, a3⟩ := a
  obtain ⟨b0, b1, b2, b3⟩ := b
  have aH := aggH
  have zH := sizeH
  have bel : Below w.heap.size w ((w.alloc (.cells #[.int .i64 a0, .int .i64 a1, .int .i64 a2, .int .i64 a3] 30)).alloc (.cells #[.int .i64 b0, .int .i64 b1, .int .i64 b2, .int .i64 b3] 30)) := ((Below.refl _ _).alloc (Nat.le_refl _) _).alloc (by simp) _
  have hX : At ((w.alloc (.cells #[.int .i64 a0, .int .i64 a1, .int .i64 a2, .int .i64 a3] 30)).alloc (.cells #[.int .i64 b0, .int .i64 b1, .int .i64 b2, .int .i64 b3] 30)) w.heap.size ⟨a0, a1, a2, a3⟩ := (At.new w a0 a1 a2 a3).alloc _
  have hY : At ((w.alloc (.cells #[.int .i64 a0, .int .i64 a1, .int .i64 a2, .int .i64 a3] 30)).alloc (.cells #[.int .i64 b0, .int .i64 b1, .int .i64 b2, .int .i64 b3] 30)) (w.heap.size + 1) ⟨b0, b1, b2, b3⟩ := by
    have h := At.new (w.alloc (.cells #[.int .i64 a0, .int .i64 a1, .int .i64 a2, .int .i64 a3] 30)) b0 b1 b2 b3
    simpa using h
  generalize checkV ⟨a0, a1, a2, a3⟩ ⟨b0, b1, b2, b3⟩ key p = V at H1 H2 H3 H4 H5 H6 ⊢
  generalize checkE ⟨a0, a1, a2, a3⟩ ⟨b0, b1, b2, b3⟩ key p = C at H1 H2 H3 H4 H5 H6 ⊢
  generalize lies ⟨a0, a1, a2, a3⟩ ⟨b0, b1, b2, b3⟩ = L at H4 HP
  generalize bothE ⟨a0, a1, a2, a3⟩ ⟨b0, b1, b2, b3⟩ key = E at H1 H2 H3 H4 H5 H6 HC
  unfold hv at *
  simp only at HP HG HH H2 H3 H4 H5 H6
  generalize growE a1 a0 b1 b0 p = G at HG HH H6
  clear hA hL hr hm hln
  go_enter Tryd.func17, Tryd.ntmps17
  go_upto_region 1 with fail
  generalize (w.alloc (.cells #[.int .i64 a0, .int .i64 a1, .int .i64 a2, .int .i64 a3] 30)).alloc (.cells #[.int .i64 b0, .int .i64 b1, .int .i64 b2, .int .i64 b3] 30) = w0 at bel hX hY ⊢
  obtain ⟨p0, p1, p2, p3⟩ := hX
  obtain ⟨q0, q1, q2, q3⟩ := hY
  simp only at p0 p1 p2 p3 q0 q1 q2 q3
  have HX : Hid (At w0 w.heap.size ⟨a0, a1, a2, a3⟩) := ⟨p0, p1, p2, p3⟩
  have HY : Hid (At w0 (w.heap.size + 1) ⟨b0, b1, b2, b3⟩) := ⟨q0, q1, q2, q3⟩
  have HB0 : Hid (Below w.heap.size w w0) := bel
  go_wp2_with fail
  refine (HC.out _ _ (HB0.out.alloc HB0.out.size _) (two_wide w0 _ a0 a1 a2 a3 b0 b1 b2 b3)).mono ?_
  rintro e w1 ⟨rfl, b1'⟩
  have HB1 : Hid (Below w0.heap.size w0 w1) := bt ((Below.refl _ _).alloc (Nat.le_refl _) _) b1'
  have HB : Hid (Below w.heap.size w w1) := bt HB0.out HB1.out
  clear b1' p0 p1 p2 p3 q0 q1 q2 q3 bel HC
  by_cases hE : E = 0
  rotate_left
  · obtain ⟨h1, h2⟩ := H1.out hE
    have HN : Hid (errv C = .iface 68 (.int .i64 E)) := by show errv C = _; rw [h2]; exact errv_pos _ hE
    have HV : Hid (V = false) := h1
    rw [errv_pos _ hE]
    clear h1 h2 hE H1 H2 H3 H4 H5 H6 HG HH HP HX HY HT
    go_wp2_with fail
    go_ret2
    exact ⟨by rw [HN.out, HV.out]; rfl, HB.out⟩
  obtain ⟨p0, p1, p2, p3⟩ := HX.out.below HB1.out
  obtain ⟨q0, q1, q2, q3⟩ := HY.out.below HB1.out
  simp only at p0 p1 p2 p3 q0 q1 q2 q3
  rw [hE, errv0]
  by_cases h1 : b0 < a0
  · obtain ⟨k1, k2⟩ := H2.out hE h1
    subst k1 k2
    clear hE H1 H2 H3 H4 H5 H6 HG HH HP HX HY HT
    go_wp2_with fail
    go_ret2
    exact ⟨rfl, HB.out⟩
  by_cases h2 : a0 = b0
  · subst h2
    have e2 : (a0 == a0) = true := by simp
    by_cases h3 : 0 < n
    · obtain ⟨k1, k2⟩ := H3.out hE rfl h3
      have i3 : (0 : Int) < (n : Int) := by omega
      subst k1 k2
      clear hE H1 H2 H3 H4 H5 H6 HG HH HP HX HY HT
      go_wp2_with fail
      go_ret2
      exact ⟨rfl, HB.out⟩
    · obtain ⟨k1, k2⟩ := H4.out hE rfl (by omega)
      have i3 : ¬ (0 : Int) < (n : Int) := by omega
      have HV : Hid (V = !L) := k1
      subst k2
      clear k1 hE H1 H2 H3 H4 H5 H6 HG HH HX HY HT
      go_wp2_with fail
      refine (HP.out _).mono ?_
      rintro e w2 ⟨rfl, b2'⟩
      have HB2 : Hid (Below w.heap.size w w2) := bt HB.out b2'
      clear b2' p0 p1 p2 p3 q0 q1 q2 q3 HP
      go_wp2_with fail
      go_ret2
      exact ⟨by rw [HV.out]; rfl, HB2.out⟩
  have e2 : (a0 == b0) = false := by simpa using h2
  by_cases h3 : a0 = 0
  · obtain ⟨k1, k2⟩ := H5.out hE (by omega) h3
    subst k1 k2 h3
    clear hE H1 H2 H3 H4 H5 H6 HG HH HP HX HY HT
    go_wp2_with fail
    go_ret2
    exact ⟨rfl, HB.out⟩
  have e3 : (a0 == 0) = false := by simpa using h3
  obtain ⟨k1, k2⟩ := H6.out hE (by omega) h3
  have HK : Hid (decide (G = 0) = V ∧ holdE G = C) := ⟨k1.symm, k2.symm⟩
  obtain ⟨CV, HCV⟩ : ∃ CV, Hid (errv C = CV) := ⟨_, rfl⟩
  clear k1 k2 hE h3 H1 H2 H3 H4 H5 H6 HP HX HY HT
  go_wp2_with fail
  refine (HG.out _ HB.out).mono ?_
  rintro e w2 ⟨rfl, b2'⟩
  have HB2 : Hid (Below w.heap.size w w2) := bt HB.out b2'
  clear b2' p0 p1 p2 p3 q0 q1 q2 q3 HG
  have cH := HH.out _ HB2.out
  rw [HK.out.1, HK.out.2, HCV.out] at cH
  generalize errv G = GV at cH ⊢
  go_wp2_with fail
  refine cH.mono ?_
  rintro e w3 ⟨rfl, b3'⟩
  have HB3 : Hid (Below w.heap.size w w3) := bt HB2.out b3'
  clear b3' cH HH
  go_wp2_with fail
  go_ret2
  exact ⟨by rw [HCV.out]; rfl, HB3.out⟩

theorem lies_at {l : List Head} {i k : Nat} {x y : Head} (hi : l[i]? = some x) (hk : l[k]? = some y) (hlt : i < k) (h : ∀ j z, j < i → l[j]? = some z → lies z y = false) (hl : lies x y = true) : clashAt l k = some i := by
  obtain ⟨h1, rfl⟩ := List.getElem?_eq_some_iff.1 hi
  obtain ⟨h2, rfl⟩ := List.getElem?_eq_some_iff.1 hk
  exact Forks.clash_yes h2 hlt (fun j hj => h j _ hj (List.getElem?_eq_getElem _)) hl
theorem lies_no {l : List Head} {k : Nat} {y : Head} (hk : l[k]? = some y) (h : ∀ j z, j < k → l[j]? = some z → lies z y = false) : clashAt l k = none := by
  obtain ⟨h2, rfl⟩ := List.getElem?_eq_some_iff.1 hk
  exact Forks.clash_no h2 fun j hj => h j _ hj (List.getElem?_eq_getElem _)

set_option maxHeartbeats 4000000 in
theorem find_any (l : List Head) (x : Option Addr) (n cap : Nat) (key : Int) (w : World) (hr : Wide 4 w x n cap (HeadList.cells l)) (hA : Asks w) : Calls Tryd.prog 18 #[.slice x n cap, .int .i64 key] w fun e w' => e = .returned (.tuple #[.int .i64 ((findP l key).1 : Nat), .int .i64 ((findP l key).2 : Nat), errv (findE l key)]) ∧ Below w.heap.size w w' := by
  have hln := HeadList.len_of hr
  have hcap := hr.2.1
  have HR : Hid (∀ w', Below w.heap.size w w' → Wide 4 w' x n cap (cells l)) := fun w' b => hr.below b
  have aH := aggH
  have zH := sizeH
  have H0 : Hid (findE l key ≠ 0 → findP l key = (0, 0)) := fun h => if_neg h
  by_cases h20 : 20 < n
  · have i0 : (20 : Int) < (n : Int) := by omega
    have hE : findE l key = 4 := if_pos (by omega)
    have hP := H0.out (by rw [hE]; decide)
    rw [hE, hP]
    clear hr hA hE hP
    go_enter Tryd.func18, Tryd.ntmps18
    go_wp2_with fail
    go_ret3
    exact ⟨rfl, Below.refl _ _⟩
  have i0 : ¬ (20 : Int) < (n : Int) := by omega
  have H1 : Hid (allE l key ≠ 0 → findE l key = allE l key) := fun h => by
    unfold Forks.findE
    rw [if_neg (by omega), if_pos h]
  have H2 : Hid (allE l key = 0 → pairF l n = none → findE l key = 5) := fun h h2 => by
    unfold Forks.findE
    rw [if_neg (by omega), if_neg (by omega), if_pos (by unfold Forks.pair; rw [hln]; exact h2)]
  have H3 : Hid (∀ i k, allE l key = 0 → pair l = some (i, k) → findE l key = 0 ∧ findP l key = (i, k)) := fun i k h h2 => by
    have hE : findE l key = 0 := by
      unfold Forks.findE
      rw [if_neg (by omega), if_neg (by omega), if_neg (by rw [h2]; simp)]
    refine ⟨hE, ?_⟩
    unfold Forks.findP
    rw [if_pos hE, h2]
    rfl
  have cA := all_any l x n cap key w hr (by omega) hA
  clear hr hA
  go_enter Tryd.func18, Tryd.ntmps18
  go_wp2_with fail
  refine cA.mono ?_
  rintro e w1 ⟨rfl, b1⟩
  have HB1 : Hid (Below w.heap.size w w1) := b1
  clear cA b1
  by_cases hE : allE l key = 0
  rotate_left
  · have hF := H1.out hE
    have hP := H0.out (by rw [hF]; exact hE)
    have HN : Hid (errv (findE l key) = .iface 68 (.int .i64 (allE l key : Nat))) := by show errv (findE l key) = _; rw [hF]; exact errv_pos _ hE
    have HP : Hid (findP l key = (0, 0)) := hP
    rw [errv_pos _ hE]
    clear hE hF hP H0 H1 H2 H3
    go_wp2_with fail
    go_ret3
    exact ⟨by rw [HN.out, HP.out]; rfl, HB1.out⟩
  rw [hE, errv0]
  have HE : Hid (allE l key = 0) := hE
  clear hE
  go_wp2_with fail
  go_loopw [24] (fun kv wr => ∃ k : Nat, k ≤ n ∧ kv = .int .i64 (k : Int) ∧ Hid (pairF l k = none) ∧ Hid (Below w.heap.size w wr)) (fun kv _ => n - (intOf kv).toNat)
  case atStart => exact ⟨0, Nat.zero_le _, rfl, rfl, HB1⟩
  case round =>
    obtain ⟨k, hk, rfl, HN, HB⟩ := hrel
    by_cases hlt : k < n
    · have i1 : (k : Int) < (n : Int) := by omega
      have i2 : (k : Int) ≤ (n : Int) := by omega
      have i3 : (k : Int) ≤ (cap : Int) := by omega
      have i4 : (0 : Int) ≤ (k : Int) := by omega
      obtain ⟨b0, off0, rfl, _⟩ := (HR.out w (Below.refl _ _)).2.2 (by omega)
      obtain ⟨p0, p1, p2, p3⟩ := HeadList.at_four (HR.out wr HB.out) k (by omega)
      have HY : Hid (l[k]? = some (l[k]'(by omega))) := List.getElem?_eq_getElem _
      generalize l[k]'(by omega) = y at p0 p1 p2 p3 HY
      obtain ⟨y0, y1, y2, y3⟩ := y
      simp only at p0 p1 p2 p3
      have HB2 : Hid (Below w.heap.size w (wr.alloc (.cells #[.int .i64 y0, .int .i64 y1, .int .i64 y2, .int .i64 y3] 30))) := HB.out.alloc HB.out.size _
      have HA2 : Hid (At (wr.alloc (.cells #[.int .i64 y0, .int .i64 y1, .int .i64 y2, .int .i64 y3] 30)) wr.heap.size ⟨y0, y1, y2, y3⟩) := At.new wr y0 y1 y2 y3
      go_upto_region 9 with fail
      generalize wr.alloc (.cells #[.int .i64 y0, .int .i64 y1, .int .i64 y2, .int .i64 y3] 30) = w2 at HB2 HA2 ⊢
      generalize wr.heap.size = g at HA2 ⊢
      clear p0 p1 p2 p3
      go_wp2_with fail
      go_loopw [33] (fun iv wi => ∃ i : Nat, i ≤ k ∧ iv = .int .i64 (i : Int) ∧ Hid (∀ j z, j < i → l[j]? = some z → lies z ⟨y0, y1, y2, y3⟩ = false) ∧ Hid (Below w.heap.size w wi) ∧ Hid (At wi g ⟨y0, y1, y2, y3⟩)) (fun iv _ => k - (intOf iv).toNat)
      case atStart => exact ⟨0, Nat.zero_le _, rfl, (fun j z h => by omega), HB2, HA2⟩
      case round =>
        clear HB2 HA2
        obtain ⟨i, hi, rfl, HJ, HBi, HAi⟩ := hrel
        by_cases hik : i < k
        · have j1 : (i : Int) < (k : Int) := by omega
          obtain ⟨p0, p1, p2, p3⟩ := HeadList.at_four (HR.out wr HBi.out) i (by omega)
          have HX : Hid (l[i]? = some (l[i]'(by omega))) := List.getElem?_eq_getElem _
          generalize l[i]'(by omega) = x at p0 p1 p2 p3 HX
          obtain ⟨x0, x1, x2, x3⟩ := x
          simp only at p0 p1 p2 p3
          have HB3 : Hid (Below w.heap.size w (wr.alloc (.cells #[.int .i64 x0, .int .i64 x1, .int .i64 x2, .int .i64 x3] 30))) := HBi.out.alloc HBi.out.size _
          have HA3 : Hid (At (wr.alloc (.cells #[.int .i64 x0, .int .i64 x1, .int .i64 x2, .int .i64 x3] 30)) wr.heap.size ⟨x0, x1, x2, x3⟩) := At.new wr x0 x1 x2 x3
          have HA4 : Hid (At (wr.alloc (.cells #[.int .i64 x0, .int .i64 x1, .int .i64 x2, .int .i64 x3] 30)) g ⟨y0, y1, y2, y3⟩) := HAi.out.alloc _
          go_upto_region 12 with fail
          generalize wr.alloc (.cells #[.int .i64 x0, .int .i64 x1, .int .i64 x2, .int .i64 x3] 30) = w3 at HB3 HA3 HA4 ⊢
          generalize wr.heap.size = g3 at HA3 ⊢
          clear p0 p1 p2 p3
          obtain ⟨p0, p1, p2, p3⟩ := HA3.out
          obtain ⟨q0, q1, q2, q3⟩ := HA4.out
          simp only at p0 p1 p2 p3 q0 q1 q2 q3
          have cP := parted_any ⟨x0, x1, x2, x3⟩ ⟨y0, y1, y2, y3⟩ w3
          unfold hv at cP
          simp only at cP
          go_wp2_with fail
          refine cP.mono ?_
          rintro e w4 ⟨rfl, b4⟩
          have HB4 : Hid (Below w.heap.size w w4) := bt HB3.out b4
          have HA5 : Hid (At w4 g ⟨y0, y1, y2, y3⟩) := HA4.out.below b4
          clear cP b4 p0 p1 p2 p3 q0 q1 q2 q3
          cases hl : lies ⟨x0, x1, x2, x3⟩ ⟨y0, y1, y2, y3⟩ with
          | true =>
            obtain ⟨k1, k2⟩ := H3.out i k HE.out (Forks.pair_at (by omega) HN.out (lies_at HX.out HY.out hik HJ.out hl))
            have HN2 : Hid (errv (findE l key) = .nilIface) := by show errv (findE l key) = _; rw [k1]; rfl
            have HP2 : Hid (findP l key = (i, k)) := k2
            clear k1 k2 hl
            go_wp2_with fail
            go_ret3
            exact ⟨by rw [HN2.out, HP2.out]; rfl, HB4.out⟩
          | false =>
            have HJ2 : Hid (∀ j z, j < i + 1 → l[j]? = some z → lies z ⟨y0, y1, y2, y3⟩ = false) := fun j z hj hz => by
              by_cases e : j = i
              · subst e
                rw [HX.out] at hz
                obtain rfl := Option.some.inj hz
                exact hl
              · exact HJ.out j z (by omega) hz
            clear hl
            go_wp2_with fail
            go_roundw
            case rel => exact ⟨i + 1, by omega, by go_num, HJ2, HB4, HA5⟩
            case measure => simp [intOf]; omega
        · have j1 : ¬ (i : Int) < (k : Int) := by omega
          have HN2 : Hid (pairF l (k + 1) = none) := Forks.pair_next HN.out (lies_no HY.out fun j z hj hz => HJ.out j z (by omega) hz)
          go_wp2_with fail
          go_roundw
          case rel => exact ⟨k + 1, by omega, by go_num, HN2, HBi⟩
          case measure => simp [intOf]; omega
    · have i1 : ¬ (k : Int) < (n : Int) := by omega
      have hkn : k = n := by omega
      have hF := H2.out HE.out (by rw [← hkn]; exact HN.out)
      have hP := H0.out (by rw [hF]; decide)
      have HN2 : Hid (errv (findE l key) = .iface 68 (.int .i64 5)) := by show errv (findE l key) = _; rw [hF]; rfl
      have HP2 : Hid (findP l key = (0, 0)) := hP
      clear hF hP
      go_wp2_with fail
      go_ret3
      exact ⟨by rw [HN2.out, HP2.out]; rfl, HB.out⟩

end Go.Proofs.YthaibjidfgmdmahDoor.WalkFo
