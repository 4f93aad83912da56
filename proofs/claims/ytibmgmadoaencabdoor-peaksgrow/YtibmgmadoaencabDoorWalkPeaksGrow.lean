/-
  The walk of PeaksGrow: leaf by leaf, or at once; begun again from what is kept, it goes on the same.
-/
import Derived.Test.YtibmgmadoaencabDoorWalkPeakSt
namespace Go.Proofs.YtibmgmadoaencabDoor.WalkPeaksGrow
open Go.RowKit
open Lists (Row ints bt)
open Keeps (Kept owns_row owns_kept)
open WalkPeaks (Pk foot info3)
open WalkPeakSt (St append_any st_below st_kept root_any parts_le tab_lt)
open WalkBits (Tab)
open WalkCheck (errv errv0 errv_pos)

/-- two Peaks of the same leafs, apart from each other -/
structure Two (w wr : World) (b c : Nat) (l : List Int) (u v : Value) : Prop where
  p : St w.heap.size w b wr l u
  q : St w.heap.size w c wr l v
  apart : ∀ k, foot b u k → ¬ foot c v k

theorem Two.later {w wr w' : World} {b c : Nat} {l : List Int} {u v : Value} (h : Two w wr b c l u v) (k : Below wr.heap.size wr w') : Two w w' b c l u v := ⟨st_below h.p k, st_below h.q k, h.apart⟩

/-- one leaf more in the first, then in the second -/
theorem Two.next {w wr w2 w3 : World} {b c : Nat} {l : List Int} {u v u' v' : Value} {x : Int} (h : Two w wr b c l u v) (s2 : St w.heap.size w b w2 (l ++ [x]) u') (f2 : ∀ k, u'.ownBlock = some k → u.ownBlock = some k ∨ wr.heap.size ≤ k)
    (s3 : St w.heap.size w c w3 (l ++ [x]) v') (k3 : Kept (foot c v) w2 w3) (f3 : ∀ k, v'.ownBlock = some k → v.ownBlock = some k ∨ w2.heap.size ≤ k) : Two w w3 b c (l ++ [x]) u' v' := by
  have off : ∀ k, foot b u' k → ¬ foot c v k := by
    rintro k (q | q) r
    · exact h.apart k (.inl q) r
    · rcases f2 k q with q' | q'
      · exact h.apart k (.inr q') r
      · have := (h.q.pk.foot_lt k r).2; omega
  refine ⟨st_kept s2 k3 off (fun i hi => (h.q.pk.foot_lt i hi).1), s3, fun k hk r => ?_⟩
  rcases r with r | r
  · exact off k hk (.inl r)
  · rcases f3 k r with q | q
    · exact off k hk (.inr q)
    · have := (s2.pk.foot_lt k hk).2; omega

theorem parts567 : Peaks.parts ([] ++ [5] ++ [6] ++ [7]) = [Peaks.node 5 6, 7] := by decide +kernel

theorem pk_base {w : World} {B B' b s : Nat} {v : Value} {xs : List Int} (h : Pk w B b s v xs) (hB : B' ≤ B) : Pk w B' b s v xs := ⟨h.lies, Nat.le_trans hB h.above, Keeps.owns_base h.own hB, h.apart⟩
theorem leafsE_take (l : List Int) (k : Nat) (h : Trees.leafsE l = 0) : Trees.leafsE (l.take k) = 0 := by
  unfold Trees.leafsE at h ⊢
  split at h
  · cases h
  · split at h
    · rename_i h1 h2
      rw [if_neg (by rw [List.length_take]; omega), if_pos]
      exact List.all_eq_true.2 fun x hx => Trees.allOk_mem h2 x (List.mem_of_mem_take hx)
    · cases h
theorem leafsE_parts (l : List Int) (h : Trees.leafsE l = 0) : l.length ≤ 200 ∧ ∀ x ∈ l, Nums.valid x = true := by
  unfold Trees.leafsE at h
  split at h
  · cases h
  · split at h
    · rename_i h1 h2
      exact ⟨by omega, Trees.allOk_mem h2⟩
    · cases h
theorem take_snoc (l : List Int) (k : Nat) (h : k < l.length) : l.take (k + 1) = l.take k ++ [l.getD k 0] := by
  rw [List.take_succ_eq_append_getElem h, List.getD_eq_getElem?_getD, List.getElem?_eq_getElem h]; rfl

set_option maxHeartbeats 1000000 in
set_option maxRecDepth 100000 in
theorem walk (a : Option Addr) (n cap : Nat) (l : List Int) (hz : l.length * 8 ≤ 140737488351232) (_ : ∀ x ∈ l, (Lit.int .i64 x).wf = true) (at_ : Int) (_ : (Lit.int .i64 at_).wf = true) (w : World) (hr : Row w a n cap (ints l)) (hT : Tab w) :
    Calls Tryd.prog 4 #[.slice a n cap, .int .i64 at_] w fun e w' => e = .returned (.bool true) ∧ Below w.heap.size w w' := by
  have hln : l.length = n := by rw [← hr.1, Lists.ints_length]
  have HR : Hid (Row w a n cap (ints l)) := hr
  have HT : Hid (Tab w) := hT
  have nb : n ≤ 17592186043904 := by omega
  clear hr hT hz
  have v5 : Nums.valid 5 = true := by decide
  have v6 : Nums.valid 6 = true := by decide
  have v7 : Nums.valid 7 = true := by decide
  go_enter Tryd.func4, Tryd.ntmps4
  go_wp2_with fail
  refine (WalkPeaks.new_any w).mono ?_
  rintro e w1 ⟨rfl, p1, b1⟩
  have s1 : St w.heap.size w w.heap.size w1 [] (.slice none 0 0) := ⟨p1, by simp, by simp, b1, b1.size⟩
  clear p1 b1
  have c5 := append_any (x := 5) s1 (by simp) v5 HT.out (Nat.le_refl _)
  clear s1
  go_wp2_with fail
  refine c5.mono ?_
  rintro e w2 ⟨rfl, x2, s2, k2, f2⟩
  have c6 := append_any (x := 6) s2 (by simp) v6 HT.out (Nat.le_refl _)
  clear s2 k2 f2 c5
  go_wp2_with fail
  refine c6.mono ?_
  rintro e w3 ⟨rfl, x3, s3, k3, f3⟩
  have c7 := append_any (x := 7) s3 (by simp) v7 HT.out (Nat.le_refl _)
  clear s3 k3 f3 c6
  go_wp2_with fail
  refine c7.mono ?_
  rintro e w4 ⟨rfl, x4, s4, k4, f4⟩
  have cP := WalkPeaks.parts_any w4 _ _ _ x4 _ s4.pk (by rw [parts567]; decide)
  rw [parts567] at cP
  have HB4 : Hid (Below w.heap.size w w4) := s4.below
  clear s4 k4 f4 c7 v5 v6 v7
  go_wp2_with fail
  refine cP.mono ?_
  rintro e w5 ⟨u5, rfl, o5, b5⟩
  obtain ⟨a5, d5, rfl, r5, z5⟩ := owns_row o5
  obtain ⟨g5, o5', rfl, hc5⟩ := r5.2.2 (by simp)
  have q5 := hc5 1 (.int .i64 7) rfl
  have HB5 : Hid (Below w.heap.size w w5) := bt HB4.out b5
  clear o5 z5 r5 hc5 b5 HB4 cP
  have cC := WalkCheck.check_any l a n cap w5 (HR.out.below HB5.out)
  go_wp2_with fail
  by_cases he : Trees.leafsE l = 0
  · rw [he, errv0] at cC
    have HE : Hid (Trees.leafsE l = 0) := he
    obtain ⟨n2, hv⟩ := leafsE_parts l he
    have HV : Hid (∀ x ∈ l, Nums.valid x = true) := hv
    clear he hv
    refine cC.mono ?_
    rintro e w6 ⟨rfl, rfl⟩
    clear cC q5
    go_wp2_with fail
    refine (WalkPeaks.new_any w6).mono ?_
    rintro e w7 ⟨rfl, p7, b7⟩
    have S7 : Hid (St w.heap.size w w6.heap.size w7 [] (.slice none 0 0)) := ⟨pk_base p7 HB5.out.size, by simp, by simp, bt HB5.out b7, Nat.le_trans HB5.out.size b7.size⟩
    have l7 : w6.heap.size < w7.heap.size := p7.lies.lt
    clear p7 b7
    go_wp2_with fail
    refine (WalkPeaks.new_any w7).mono ?_
    rintro e w8 ⟨rfl, p8, b8⟩
    have HW : Hid (Two w w8 w6.heap.size w7.heap.size (l.take 0) (.slice none 0 0) (.slice none 0 0)) :=
      ⟨st_below S7.out b8, ⟨pk_base p8 S7.out.base, by simp, by simp, bt S7.out.below b8, Nat.le_trans S7.out.base b8.size⟩, by
        rintro k (q | q) (r | r)
        · omega
        · cases r
        · cases q
        · cases q⟩
    clear p8 b8 S7 l7 HB5
    go_wp2_with fail
    generalize w6.heap.size = b at HW ⊢
    go_loopw [8, 9] (fun y i wr => ∃ (j c : Nat) (u v : Value), j ≤ n ∧ y = .pointer (some ⟨c, 0, none⟩) ∧ i = .int .i64 j ∧ Two w wr b c (l.take j) u v) (fun _ i _ => n - (intOf i).toNat)
    case atStart => exact ⟨0, _, _, _, Nat.zero_le _, rfl, rfl, HW.out⟩
    case round =>
      clear HW
      obtain ⟨j, c, u, v, hj, rfl, rfl, hw⟩ := hrel
      by_cases hlt : j < n
      · have i1 : (j : Int) < (n : Int) := by omega
        obtain ⟨b1, off1, rfl, hc⟩ := HR.out.2.2 (by omega)
        have hc0 := hc j _ (Lists.ints_at (by omega))
        have i2 : (j : Int) + 1 ≤ (cap : Int) := by have := HR.out.2.1; omega
        have tl : (l.take j).length = j := by rw [List.length_take]; omega
        have HS : Hid (l.take (j + 1) = l.take j ++ [l.getD j 0]) := take_snoc l j (by omega)
        have HX : Hid (Nums.valid (l.getD j 0) = true) := HV.out _ (by rw [List.getD_eq_getElem?_getD, List.getElem?_eq_getElem (by omega)]; exact List.getElem_mem _)
        generalize l.getD j 0 = x at hc0 HS HX
        have HC : Hid (w.cell? ⟨b1, off1 + j, none⟩ = some (.int .i64 x)) := hc0
        clear hc hc0
        have jb : j < 201 := by omega
        by_cases hat : (j : Int) = at_
        · have ha : ((j : Int) == at_) = true := by rw [beq_iff_eq]; exact hat
          have HW0 : Hid (Two w wr b c (l.take j) u v) := hw
          have cS := WalkPeaks.size_any wr _ _ _ u _ hw.p.pk
          have cP := WalkPeaks.parts_any wr _ _ _ u _ hw.p.pk (by have := parts_le _ hw.p.len; omega)
          have pl := Peaks.parts_len (l.take j) (by omega)
          have ol : Peaks.ones j ≤ 8 := Peaks.ones_le ⟨j, jb⟩
          rw [tl] at cS pl
          rw [pl] at cP
          clear hw hat
          go_wp2_with fail
          refine cS.mono ?_
          rintro e wx ⟨rfl, rfl⟩
          go_wp2_with fail
          refine cP.mono ?_
          rintro e wy ⟨uy, rfl, oy, by_⟩
          obtain ⟨ay, cy, rfl, ry, zy⟩ := owns_row oy
          have cO := WalkPeakRoot.of_yes (Peaks.parts (l.take j)) ay _ cy j wy (by omega) ry pl (List.all_eq_true.2 (Peaks.parts_ok _ HW0.out.p.ok))
          have HW1 : Hid (Two w wy b c (l.take j) u v) := HW0.out.later by_
          clear cS cP oy ry zy by_ HW0
          generalize Peaks.ones j = k at pl ol cO ⊢
          go_wp2_with fail
          refine cO.mono ?_
          rintro e wo ⟨c', v', rfl, po, bo⟩
          have HW2 : Hid (Two w wo b c' (l.take j) u v') := by
            refine ⟨st_below HW1.out.p bo, ⟨?_, by rw [tl]; omega, HW1.out.p.ok, HW1.out.p.below.trans (bo.mono HW1.out.p.base), Nat.le_trans HW1.out.p.base bo.size⟩, fun i hp hq => ?_⟩
            · rw [tl]; exact pk_base po HW1.out.p.base
            · have h1 := (HW1.out.p.pk.foot_lt i hp).2
              have h2 := (po.foot_lt i hq).1
              omega
          clear cO po bo HW1 pl ol
          have HW : Hid (Two w wo b c' (l.take j) u v') := HW2.out
          clear HW2
          have cA := append_any (x := x) HW.out.p (by rw [tl]; omega) HX.out HT.out (Nat.le_refl _)
          have hcell := Lists.cell_below HW.out.p.below HC.out
          go_wp2_with fail
          refine cA.mono ?_
          rintro e wa ⟨rfl, u2, s2, k2, f2⟩
          have HQ : Hid (St w.heap.size w c' wa (l.take j) v') := st_kept HW.out.q k2 (fun i hi hp => HW.out.apart i hp hi) (fun i hi => (HW.out.p.pk.foot_lt i hi).1)
          have H2 : Hid (St w.heap.size w b wa (l.take j ++ [x]) u2 ∧ Kept (foot b u) wo wa ∧ ∀ k, u2.ownBlock = some k → u.ownBlock = some k ∨ wo.heap.size ≤ k) := ⟨s2, k2, f2⟩
          have hcell2 := Lists.cell_below s2.below HC.out
          clear s2 k2 f2 cA hcell
          have cB := append_any (x := x) HQ.out (by rw [tl]; omega) HX.out HT.out (Nat.le_refl _)
          go_wp2_with fail
          refine cB.mono ?_
          rintro e wb ⟨rfl, v2, s3, k3, f3⟩
          have HN : Hid (Two w wb b c' (l.take (j + 1)) u2 v2) := by
            have h := Two.next HW.out H2.out.1 H2.out.2.2 s3 k3 f3
            rw [← HS.out] at h
            exact h
          clear s3 k3 f3 cB hcell2 HQ H2 HW
          have cR := WalkCheck.root_any (l.take (j + 1)) (some ⟨b1, off1, none⟩) (j + 1) cap wb (by rw [Lists.ints_take]; exact (HR.out.below HN.out.p.below).take (j + 1) (by omega))
          rw [leafsE_take l (j + 1) HE.out, errv0, show Trees.rootV (l.take (j + 1)) = Trees.root (l.take (j + 1)) from if_pos (leafsE_take l (j + 1) HE.out)] at cR
          go_wp2_with fail
          refine cR.mono ?_
          rintro e wc ⟨rfl, bc⟩
          have HM : Hid (Two w wc b c' (l.take (j + 1)) u2 v2) := HN.out.later bc
          have cP := root_any HM.out.p
          have hq : (Trees.root (l.take (j + 1)) != Trees.root (l.take (j + 1))) = false := by simp
          clear cR bc HN
          go_wp2_with fail
          refine cP.mono ?_
          rintro e wd ⟨rfl, bd⟩
          have HM2 : Hid (Two w wd b c' (l.take (j + 1)) u2 v2) := HM.out.later bd
          have cQ := root_any HM2.out.q
          clear cP bd HM
          go_wp2_with fail
          refine cQ.mono ?_
          rintro e we ⟨rfl, be⟩
          have HM3 : Hid (Two w we b c' (l.take (j + 1)) u2 v2) := HM2.out.later be
          clear cQ be HM2
          generalize Trees.root (l.take (j + 1)) = X at hq ⊢
          go_wp2_with fail
          go_roundw
          case rel => exact ⟨j + 1, c', u2, v2, by omega, rfl, by go_num, HM3.out⟩
          case measure => simp [intOf]; omega
        · have ha : ((j : Int) == at_) = false := by rw [beq_eq_false_iff_ne]; exact hat
          have HW : Hid (Two w wr b c (l.take j) u v) := hw
          clear hw hat
          have cA := append_any (x := x) HW.out.p (by rw [tl]; omega) HX.out HT.out (Nat.le_refl _)
          have hcell := Lists.cell_below HW.out.p.below HC.out
          go_wp2_with fail
          refine cA.mono ?_
          rintro e wa ⟨rfl, u2, s2, k2, f2⟩
          have HQ : Hid (St w.heap.size w c wa (l.take j) v) := st_kept HW.out.q k2 (fun i hi hp => HW.out.apart i hp hi) (fun i hi => (HW.out.p.pk.foot_lt i hi).1)
          have H2 : Hid (St w.heap.size w b wa (l.take j ++ [x]) u2 ∧ Kept (foot b u) wr wa ∧ ∀ k, u2.ownBlock = some k → u.ownBlock = some k ∨ wr.heap.size ≤ k) := ⟨s2, k2, f2⟩
          have hcell2 := Lists.cell_below s2.below HC.out
          clear s2 k2 f2 cA hcell
          have cB := append_any (x := x) HQ.out (by rw [tl]; omega) HX.out HT.out (Nat.le_refl _)
          go_wp2_with fail
          refine cB.mono ?_
          rintro e wb ⟨rfl, v2, s3, k3, f3⟩
          have HN : Hid (Two w wb b c (l.take (j + 1)) u2 v2) := by
            have h := Two.next HW.out H2.out.1 H2.out.2.2 s3 k3 f3
            rw [← HS.out] at h
            exact h
          clear s3 k3 f3 cB hcell2 HQ H2 HW
          have cR := WalkCheck.root_any (l.take (j + 1)) (some ⟨b1, off1, none⟩) (j + 1) cap wb (by rw [Lists.ints_take]; exact (HR.out.below HN.out.p.below).take (j + 1) (by omega))
          rw [leafsE_take l (j + 1) HE.out, errv0, show Trees.rootV (l.take (j + 1)) = Trees.root (l.take (j + 1)) from if_pos (leafsE_take l (j + 1) HE.out)] at cR
          go_wp2_with fail
          refine cR.mono ?_
          rintro e wc ⟨rfl, bc⟩
          have HM : Hid (Two w wc b c (l.take (j + 1)) u2 v2) := HN.out.later bc
          have cP := root_any HM.out.p
          have hq : (Trees.root (l.take (j + 1)) != Trees.root (l.take (j + 1))) = false := by simp
          clear cR bc HN
          go_wp2_with fail
          refine cP.mono ?_
          rintro e wd ⟨rfl, bd⟩
          have HM2 : Hid (Two w wd b c (l.take (j + 1)) u2 v2) := HM.out.later bd
          have cQ := root_any HM2.out.q
          clear cP bd HM
          go_wp2_with fail
          refine cQ.mono ?_
          rintro e we ⟨rfl, be⟩
          have HM3 : Hid (Two w we b c (l.take (j + 1)) u2 v2) := HM2.out.later be
          clear cQ be HM2
          generalize Trees.root (l.take (j + 1)) = X at hq ⊢
          go_wp2_with fail
          go_roundw
          case rel => exact ⟨j + 1, c, u2, v2, by omega, rfl, by go_num, HM3.out⟩
          case measure => simp [intOf]; omega
      · obtain rfl : j = n := by omega
        have i1 : ¬ (j : Int) < (j : Int) := by omega
        have cS := WalkPeaks.size_any wr _ _ _ u _ hw.p.pk
        rw [show (l.take j).length = j by rw [List.length_take]; omega] at cS
        have HB : Hid (Below w.heap.size w wr) := hw.p.below
        have hq : ((j : Int) == (j : Int)) = true := by simp
        clear hw
        go_wp2_with fail
        refine cS.mono ?_
        rintro e wx ⟨rfl, rfl⟩
        clear cS
        go_wp2_with fail
        go_ret
        exact ⟨rfl, HB.out⟩
  · rw [errv_pos _ he] at cC
    clear he
    refine cC.mono ?_
    rintro e w6 ⟨rfl, rfl⟩
    clear cC q5
    go_wp2_with fail
    go_ret
    exact ⟨rfl, HB5.out⟩

end Go.Proofs.YtibmgmadoaencabDoor.WalkPeaksGrow
