/-
  The walk of PeaksTell: leafs that are appended one by one, what is refused, the parts and the root of all; and Peaks of any size and parts.
-/
import Derived.Test.YtibmgmadoaencabDoorWalkPeakSt
import Derived.Test.YtibmgmadoaencabDoorWalkPeakRef
import Derived.Test.YtibmgmadoaencabDoorWalkInts
import Derived.Test.YtibmgmadoaencabDoorWalkTold
import Derived.Deep.DeepMust
namespace Go.Proofs.YtibmgmadoaencabDoor.WalkPeaksTell
open Go.RowKit
open Lists (Row ints bt)
open Keeps (Kept owns_row owns_kept)
open WalkPeaks (Pk foot info3)
open WalkPeakSt (St append_any st_below st_kept root_any parts_le tab_lt)
open WalkBits (Tab)
open WalkTold (Laid)
open WalkPeakRoot (ofE)

/-- where the loop stands -/
structure At (w wr : World) (acc : List Int) (u v : Value) : Prop where
  st : St w.heap.size w w.heap.size wr acc v
  own : wr.ownsRow w.heap.size 3 1 u acc.length (ints acc)
  apart : ∀ k, u.ownBlock = some k → ¬ foot w.heap.size v k

theorem At.later {w wr w' : World} {acc : List Int} {u v : Value} (h : At w wr acc u v) (b : Below wr.heap.size wr w') : At w w' acc u v :=
  ⟨st_below h.st b, owns_kept h.own (Kept.of_below (fun _ => False) b) fun _ _ q => q, h.apart⟩

/-- the document's list has one leaf more already -/
theorem At.push {w w2 wn : World} {acc : List Int} {u v v1 : Value} {x : Int} {o : Obj} (h : At w w2 acc u v) (oN : wn.ownsRow w.heap.size 3 1 v1 (acc.length + 1) (ints acc ++ [.int .i64 x]))
    (g : (w2.alloc o).grownBy wn u.ownBlock) (hat : v1.ownBlock = u.ownBlock ∨ v1.ownBlock = some (w2.alloc o).heap.size) :
    St w.heap.size w w.heap.size wn acc v ∧ wn.ownsRow w.heap.size 3 1 v1 (acc ++ [x]).length (ints (acc ++ [x])) ∧ (∀ k, v1.ownBlock = some k → ¬ foot w.heap.size v k) := by
  have hsz : (w2.alloc o).heap.size = w2.heap.size + 1 := by simp
  have k1 : Kept (fun k => u.ownBlock = some k) w2 wn := ((Kept.refl (fun k => u.ownBlock = some k) w2).alloc o).grown g fun k hk => .inl hk
  refine ⟨st_kept h.st k1 (fun i hf hu => h.apart i hu hf) (fun i hu => (h.own.lt i hu).1), ?_, fun k hk hf => ?_⟩
  · rw [show (acc ++ [x]).length = acc.length + 1 by simp, show ints (acc ++ [x]) = ints acc ++ [.int .i64 x] by simp [ints]]
    exact oN
  · rcases hat with e | e
    · exact h.apart k (by rw [← e]; exact hk) hf
    · rw [e] at hk
      have := Option.some.inj hk
      have := (h.st.pk.foot_lt k hf).2
      omega

theorem At.next {w wn w3 : World} {acc : List Int} {v1 v v' : Value} {x : Int} (own : wn.ownsRow w.heap.size 3 1 v1 (acc ++ [x]).length (ints (acc ++ [x])))
    (ap : ∀ k, v1.ownBlock = some k → ¬ foot w.heap.size v k) (s3 : St w.heap.size w w.heap.size w3 (acc ++ [x]) v') (k3 : Kept (foot w.heap.size v) wn w3) (hf : ∀ k, v'.ownBlock = some k → v.ownBlock = some k ∨ wn.heap.size ≤ k) : At w w3 (acc ++ [x]) v1 v' := by
  refine ⟨s3, owns_kept own k3 ap, fun k hk q => ?_⟩
  rcases q with q | q
  · exact ap k hk (.inl q)
  · rcases hf k q with q' | q'
    · exact ap k hk (.inr q')
    · have := (own.lt k hk).2; omega

theorem error_same (e : Nat) (w : World) (hg : Laid w) : Calls Tryd.prog 9 #[WalkCheck.errv e, .int .i64 (e : Int)] w fun r w' => r = .returned (.bool true) ∧ Below w.heap.size w w' := by
  have h := WalkTold.error_is e (e : Int) w hg
  rw [show ((e : Int) == (e : Int)) = true by simp] at h
  exact h

set_option maxHeartbeats 1000000 in
set_option maxRecDepth 100000 in
theorem walk (a : Option Addr) (n cap : Nat) (l : List Int) (hz : l.length * 8 ≤ 140737488351232) (_ : ∀ x ∈ l, (Lit.int .i64 x).wf = true) (size : Int) (_ : (Lit.int .i64 size).wf = true)
    (a' : Option Addr) (n' cap' : Nat) (l' : List Int) (hz' : l'.length * 8 ≤ 140737488351232) (_ : ∀ x ∈ l', (Lit.int .i64 x).wf = true) (w : World) (hr : Row w a n cap (ints l)) (hr' : Row w a' n' cap' (ints l')) (hL : Laid w) (hT : Tab w) :
    Calls Tryd.prog 3 #[.slice a n cap, .int .i64 size, .slice a' n' cap'] w fun e w' => e = .returned (.bool true) ∧ Below w.heap.size w w' := by
  obtain ⟨i0, hi, hz0, hz1, hz2⟩ := info_parts info3
  have hln : l.length = n := by rw [← hr.1, Lists.ints_length]
  have hln' : l'.length = n' := by rw [← hr'.1, Lists.ints_length]
  have HR : Hid (Row w a n cap (ints l)) := hr
  have HR' : Hid (Row w a' n' cap' (ints l')) := hr'
  have HL : Hid (Laid w) := hL
  have HT : Hid (Tab w) := hT
  have nb : n ≤ 17592186043904 := by omega
  have nb' : n' ≤ 17592186043904 := by omega
  clear hr hr' hL hT hz hz'
  go_enter Tryd.func3, Tryd.ntmps3
  go_wp2_with fail
  refine (WalkPeaks.new_any w).mono ?_
  rintro e w1 ⟨rfl, p1, b1⟩
  have HS : Hid (At w w1 [] (.slice none 0 0) (.slice none 0 0)) := ⟨⟨p1, by simp, by simp, b1, b1.size⟩, World.ownsRow_nil _ _ _ _, fun k hk => by cases hk⟩
  clear p1 b1
  go_wp2_with fail
  go_loopw [8, 9] (fun u i wr => ∃ (j : Nat) (acc : List Int) (v : Value), j ≤ n ∧ i = .int .i64 j ∧ At w wr acc u v) (fun _ i _ => n - (intOf i).toNat)
  case atStart => exact ⟨0, [], _, Nat.zero_le _, rfl, HS.out⟩
  case round =>
    obtain ⟨j, acc, v, hj, rfl, hs⟩ := hrel
    have HJ : Hid (At w wr acc u8 v) := hs
    obtain ⟨aa, ca, rfl, z1, z2⟩ := owns_row hs.own
    have al : acc.length ≤ 200 := hs.st.len
    clear hs HS z1 z2
    by_cases hlt : j < n ∧ j < 210
    · obtain ⟨hlt, h210⟩ := hlt
      have i1 : (j : Int) < (n : Int) := by omega
      have i2 : (j : Int) < 210 := by omega
      obtain ⟨b1, off1, rfl, hc⟩ := HR.out.2.2 (by omega)
      have hc0 := hc j _ (Lists.ints_at (by omega))
      clear hc
      generalize l.getD j 0 = x at hc0
      have HC : Hid (w.cell? ⟨b1, off1 + j, none⟩ = some (.int .i64 x)) := hc0
      have hcell := Lists.cell_below HJ.out.st.below hc0
      clear hc0
      cases hx : Nums.valid x
      · have HX : Hid (Nums.valid x = false) := hx
        clear hx
        go_wp2_with fail
        refine (WalkRef.valid_any _ _).mono ?_
        rintro e w2 ⟨rfl, rfl⟩
        rw [HX.out]
        have cA := WalkAppend.append_range w2 w.heap.size x HX.out
        go_wp2_with fail
        refine cA.mono ?_
        rintro e w3 ⟨rfl, rfl⟩
        have cE := error_same 1 w3 (HL.out.below HJ.out.st.below)
        go_wp2_with fail
        refine cE.mono ?_
        rintro e w4 ⟨rfl, b4⟩
        have H4 : Hid (At w w4 acc (.slice aa acc.length ca) v) := HJ.out.later b4
        have cS := WalkPeaks.size_any w4 _ _ _ v _ H4.out.st.pk
        have hq : ((acc.length : Int) != (acc.length : Int)) = false := by simp
        clear cA cE b4 HJ hcell
        go_wp2_with fail
        refine cS.mono ?_
        rintro e w5 ⟨rfl, rfl⟩
        clear cS
        go_wp2_with fail
        go_roundw
        case rel => exact ⟨j + 1, acc, v, by omega, by go_num, H4.out⟩
        case measure => simp [intOf]; omega
      · have HX : Hid (Nums.valid x = true) := hx
        clear hx
        by_cases hf : 200 ≤ acc.length
        · have i3 : (200 : Int) ≤ (acc.length : Int) := by omega
          go_wp2_with fail
          refine (WalkRef.valid_any _ _).mono ?_
          rintro e w2 ⟨rfl, rfl⟩
          rw [HX.out]
          have cA := WalkAppend.append_full w2 _ _ _ v _ x HJ.out.st.pk hf HX.out
          go_wp2_with fail
          refine cA.mono ?_
          rintro e w3 ⟨rfl, rfl⟩
          have cE := error_same 4 w3 (HL.out.below HJ.out.st.below)
          go_wp2_with fail
          refine cE.mono ?_
          rintro e w4 ⟨rfl, b4⟩
          have H4 : Hid (At w w4 acc (.slice aa acc.length ca) v) := HJ.out.later b4
          have cS := WalkPeaks.size_any w4 _ _ _ v _ H4.out.st.pk
          have hq : ((acc.length : Int) != (acc.length : Int)) = false := by simp
          clear cA cE b4 HJ hcell
          go_wp2_with fail
          refine cS.mono ?_
          rintro e w5 ⟨rfl, rfl⟩
          clear cS
          go_wp2_with fail
          go_roundw
          case rel => exact ⟨j + 1, acc, v, by omega, by go_num, H4.out⟩
          case measure => simp [intOf]; omega
        · have i3 : ¬ (200 : Int) ≤ (acc.length : Int) := by omega
          go_wp2_with fail
          refine (WalkRef.valid_any _ _).mono ?_
          rintro e w2 ⟨rfl, rfl⟩
          rw [HX.out]
          have hsz := HJ.out.st.base
          go_wp2_with (at_builtin; go_must (refine wpList_append_own_at _ rfl (.tmp 40) (.tmp 45) 22 rfl w.heap.size 3 i0 (.int .i64 0) 1 8 Tryd.underlying22 hi hz0 hz1 hz2 rfl (by decide) (.slice aa acc.length ca) acc.length (ints acc) rfl (HJ.out.own.alloc _) ⟨w2.heap.size, 0, none⟩ 1 1 [.int .i64 x] rfl rfl (cell_one_new _ _ _) (fun u hu => by rw [List.mem_singleton.1 hu]; rfl) (by unfold maxLen; omega) (by omega) (by simp; omega) ?_); intro v1 wn oN g1 hx1 at1; clear hx1; obtain ⟨sN, oN2, apN⟩ := HJ.out.push oN g1 at1; obtain ⟨a1, cp1, rfl, z1, z2⟩ := owns_row oN; have hcn := Lists.cell_below sN.below HC.out; clear z1 z2 oN g1 at1)
          have cA := append_any (x := x) sN (by omega) HX.out HT.out (Nat.le_refl _)
          have HP : Hid (St w.heap.size w w.heap.size wn acc v ∧ wn.ownsRow w.heap.size 3 1 (.slice a1 (acc.length + 1) cp1) (acc ++ [x]).length (ints (acc ++ [x])) ∧ (∀ k, (Value.slice a1 (acc.length + 1) cp1).ownBlock = some k → ¬ foot w.heap.size v k)) := ⟨sN, oN2, apN⟩
          clear sN oN2 apN HJ
          refine cA.mono ?_
          rintro e w3 ⟨rfl, v', s3, k3, f3⟩
          have H3 : Hid (At w w3 (acc ++ [x]) (.slice a1 (acc.length + 1) cp1) v') := At.next HP.out.2.1 HP.out.2.2 s3 k3 f3
          clear s3 k3 f3 HP cA
          have cE := error_same 0 w3 (HL.out.below H3.out.st.below)
          rw [WalkCheck.errv0] at cE
          go_wp2_with fail
          refine cE.mono ?_
          rintro e w4 ⟨rfl, b4⟩
          have H4 : Hid (At w w4 (acc ++ [x]) (.slice a1 (acc.length + 1) cp1) v') := H3.out.later b4
          have cS := WalkPeaks.size_any w4 _ _ _ v' _ H4.out.st.pk
          rw [show (acc ++ [x]).length = acc.length + 1 by simp] at cS
          have hq : (((acc.length + 1 : Nat) : Int) != ((acc.length : Int) + 1)) = false := by simp
          clear cE b4 H3
          go_wp2_with fail
          refine cS.mono ?_
          rintro e w5 ⟨rfl, rfl⟩
          clear cS
          go_wp2_with fail
          go_roundw
          case rel => exact ⟨j + 1, acc ++ [x], v', by omega, by go_num, H4.out⟩
          case measure => simp [intOf]; omega
    · have HA : Hid (Row wr aa acc.length ca (ints acc)) := by
        obtain ⟨a2, c2, e2, r2, _⟩ := owns_row HJ.out.own
        obtain ⟨rfl, rfl⟩ : aa = a2 ∧ ca = c2 := by simpa using e2
        exact r2
      have HB : Hid (Below w.heap.size w wr) := HJ.out.st.below
      have HV : Hid (∀ x ∈ acc, Nums.valid x = true) := HJ.out.st.ok
      have cP := WalkPeaks.parts_any wr _ _ _ v _ HJ.out.st.pk (by have := parts_le _ HJ.out.st.len; omega)
      have HST : Hid (St w.heap.size w w.heap.size wr acc v) := HJ.out.st
      clear HJ
      have hex : ((j : Int) < (n : Int) ∧ ¬ (j : Int) < 210) ∨ ¬ (j : Int) < (n : Int) := by omega
      clear hlt
      rcases hex with ⟨i1, i2⟩ | i1
      all_goals
        go_wp2_with fail
        refine cP.mono ?_
        rintro e w2 ⟨u2, rfl, o2, b2⟩
        have cR := WalkPeakRef.parts_any acc aa acc.length ca w2 al (HA.out.below b2) HV.out
        clear cP
        have HO2 : Hid (w2.ownsRow wr.heap.size 3 1 u2 (Peaks.parts acc).length (ints (Peaks.parts acc))) := o2
        have HB2 : Hid (Below wr.heap.size wr w2) := b2
        clear o2 b2
        go_wp2_with fail
        refine cR.mono ?_
        rintro e w3 ⟨u3, rfl, o3, b3⟩
        have o2 := owns_kept HO2.out (Kept.of_below (fun _ => False) b3) fun _ _ q => q
        obtain ⟨a2, c2, rfl, r2, z2⟩ := owns_row o2
        obtain ⟨a3, c3, rfl, r3, z3⟩ := owns_row o3
        have pl := parts_le acc al
        have cI := WalkInts.ints_any (Peaks.parts acc) (Peaks.parts acc) a2 a3 _ _ c2 c3 w3 r2 r3 (by omega)
        rw [decide_eq_true rfl] at cI
        have HB3 : Hid (Below wr.heap.size wr w3) := bt HB2.out b3
        clear z2 z3 o2 o3 r2 r3 b3 HO2 HB2 cR
        generalize (Peaks.parts acc).length = pn at cI pl
        go_wp2_with fail
        refine cI.mono ?_
        rintro e w4 ⟨rfl, b4⟩
        have HB4 : Hid (Below wr.heap.size wr w4) := bt HB3.out b4
        have cT := root_any (st_below HST.out HB4.out)
        clear cI b4 HB3
        go_wp2_with fail
        refine cT.mono ?_
        rintro e w5 ⟨rfl, b5⟩
        have HB5 : Hid (Below wr.heap.size wr w5) := bt HB4.out b5
        have cU := WalkTreeRef.root_le acc aa acc.length ca w5 (by omega) (HA.out.below HB5.out) HV.out
        have hq : (Trees.root acc != Trees.root acc) = false := by simp
        clear cT b5 HB4
        go_wp2_with fail
        refine cU.mono ?_
        rintro e w6 ⟨rfl, b6⟩
        have HB6 : Hid (Below w.heap.size w w6) := bt HB.out (bt HB5.out b6)
        clear cU b6 HB5 HA HV HST HB
        generalize Trees.root acc = X at hq ⊢
        by_cases hs : size < 0 ∨ 200 < size
        · have cO := WalkPeakRoot.of_range l' a' n' cap' size w6 hs
          rw [show ofE size l' = 1 from if_pos hs] at cO
          have cE := error_same 1 w6 (HL.out.below HB6.out)
          rcases hs with s1 | s1
          · go_wp2_with fail
            refine cO.mono ?_
            rintro e w7 ⟨rfl, rfl⟩
            go_wp2_with fail
            refine cE.mono ?_
            rintro e w8 ⟨rfl, b8⟩
            have HB8 : Hid (Below w.heap.size w w8) := bt HB6.out b8
            clear cE b8 cO
            go_wp2_with fail
            go_ret
            exact ⟨rfl, HB8.out⟩
          · have s2 : ¬ size < 0 := by omega
            go_wp2_with fail
            refine cO.mono ?_
            rintro e w7 ⟨rfl, rfl⟩
            go_wp2_with fail
            refine cE.mono ?_
            rintro e w8 ⟨rfl, b8⟩
            have HB8 : Hid (Below w.heap.size w w8) := bt HB6.out b8
            clear cE b8 cO
            go_wp2_with fail
            go_ret
            exact ⟨rfl, HB8.out⟩
        · obtain ⟨s, rfl⟩ := Int.eq_ofNat_of_zero_le (show 0 ≤ size by omega)
          have s1 : ¬ (s : Int) < 0 := by omega
          have s2 : ¬ (200 : Int) < (s : Int) := by omega
          have s3 : s ≤ 200 := by omega
          have HR6 : Hid (Row w6 a' n' cap' (ints l')) := HR'.out.below HB6.out
          have cN := fun w => WalkPeakRef.ones_any s w s3
          have o8 := Peaks.ones_le ⟨s, by omega⟩
          simp only at o8
          clear hs
          by_cases hl : l'.length = Peaks.ones s
          · have hne : ((n' : Int) != (Peaks.ones s : Nat)) = false := by rw [← hl, hln']; simp
            have cA := WalkTreeRef.all_any l' a' n' cap' w6 (by omega) HR6.out
            cases hv : Trees.allOk l'
            · have cO := WalkPeakRoot.of_bad l' a' n' cap' s w6 s3 HR6.out hl hv
              rw [show ofE s l' = 1 by unfold ofE; rw [if_neg (by omega), Int.toNat_natCast, if_neg (by rw [hl]; simp), if_neg (by rw [hv]; simp)]] at cO
              have cE := error_same 1 w6 (HL.out.below HB6.out)
              rw [hv] at cA
              generalize Peaks.ones s = k at cN hne
              clear hv hl o8
              go_wp2_with fail
              refine (cN _).mono ?_
              rintro e w7 ⟨rfl, rfl⟩
              go_wp2_with fail
              refine cA.mono ?_
              rintro e w7 ⟨rfl, rfl⟩
              go_wp2_with fail
              refine cO.mono ?_
              rintro e w7 ⟨rfl, rfl⟩
              go_wp2_with fail
              refine cE.mono ?_
              rintro e w8 ⟨rfl, b8⟩
              have HB8 : Hid (Below w.heap.size w w8) := bt HB6.out b8
              clear cE b8 cO cA cN
              go_wp2_with fail
              go_ret
              exact ⟨rfl, HB8.out⟩
            · have cO := WalkPeakRoot.of_yes l' a' n' cap' s w6 s3 HR6.out hl hv
              rw [hv] at cA
              have l8 : l'.length ≤ 1000 := by omega
              generalize Peaks.ones s = k at cN hne
              clear hv hl o8
              go_wp2_with fail
              refine (cN _).mono ?_
              rintro e w7 ⟨rfl, rfl⟩
              go_wp2_with fail
              refine cA.mono ?_
              rintro e w7 ⟨rfl, rfl⟩
              go_wp2_with fail
              refine cO.mono ?_
              rintro e w7 ⟨b, v7, rfl, p7, b7⟩
              have HB7 : Hid (Below w.heap.size w w7) := bt HB6.out b7
              have HP7 : Hid (Pk w7 _ b s v7 l') := p7
              have cE := error_same 0 w7 (HL.out.below HB7.out)
              rw [WalkCheck.errv0] at cE
              clear cA cN cO p7 b7
              go_wp2_with fail
              refine cE.mono ?_
              rintro e w8 ⟨rfl, b8⟩
              have HB8 : Hid (Below w.heap.size w w8) := bt HB7.out b8
              have HP8 : Hid (Pk w8 _ b s v7 l') := HP7.out.below b8
              have cQ := WalkPeaks.parts_any w8 _ _ _ v7 _ HP8.out l8
              clear cE b8 HB7 HP7
              go_wp2_with fail
              refine cQ.mono ?_
              rintro e w9 ⟨u9, rfl, o9, b9⟩
              rw [hln'] at o9
              obtain ⟨a9, c9, rfl, r9, z9⟩ := owns_row o9
              have HB9 : Hid (Below w.heap.size w w9) := bt HB8.out b9
              have HP9 : Hid (Pk w9 _ b s v7 l') := HP8.out.below b9
              have cI := WalkInts.ints_any l' l' a9 a' _ _ c9 cap' w9 r9 (HR'.out.below HB9.out) (by omega)
              rw [decide_eq_true rfl] at cI
              clear cQ o9 b9 r9 z9 HB8 HP8
              go_wp2_with fail
              refine cI.mono ?_
              rintro e w10 ⟨rfl, b10⟩
              have HB10 : Hid (Below w.heap.size w w10) := bt HB9.out b10
              have cS := WalkPeaks.size_any w10 _ _ _ v7 _ (HP9.out.below b10)
              have hqs : ((s : Int) == (s : Int)) = true := by simp
              clear cI b10 HB9 HP9
              go_wp2_with fail
              refine cS.mono ?_
              rintro e w11 ⟨rfl, rfl⟩
              clear cS
              go_wp2_with fail
              go_ret
              exact ⟨rfl, HB10.out⟩
          · have hne : ((n' : Int) != (Peaks.ones s : Nat)) = true := by rw [bne_iff_ne]; omega
            have cO := WalkPeakRoot.of_shape l' a' n' cap' s w6 s3 HR6.out hl
            rw [show ofE s l' = 3 by unfold ofE; rw [if_neg (by omega), Int.toNat_natCast, if_pos hl]] at cO
            have cE := error_same 3 w6 (HL.out.below HB6.out)
            generalize Peaks.ones s = k at cN hne
            clear hl o8
            go_wp2_with fail
            refine (cN _).mono ?_
            rintro e w7 ⟨rfl, rfl⟩
            go_wp2_with fail
            refine cO.mono ?_
            rintro e w7 ⟨rfl, rfl⟩
            go_wp2_with fail
            refine cE.mono ?_
            rintro e w8 ⟨rfl, b8⟩
            have HB8 : Hid (Below w.heap.size w w8) := bt HB6.out b8
            clear cE b8 cO cN
            go_wp2_with fail
            go_ret
            exact ⟨rfl, HB8.out⟩

end Go.Proofs.YtibmgmadoaencabDoor.WalkPeaksTell
