/-
  What the program's Root of Peaks returns, and what Of makes of a size and parts.
-/
import Derived.Test.YtibmgmadoaencabDoorWalkAppend
namespace Go.Proofs.YtibmgmadoaencabDoor.WalkPeakRoot
open Go.RowKit
open Lists (Row ints bt)
open Keeps (Kept owns_kept owns_open owns_set owns_take owns_row owns_base)
open WalkCheck (errv errv0 errv_pos)
open WalkPeaks (Pk foot info3)

def lenOf : Value → Nat
  | .slice _ n _ => n
  | _ => 0

/-- the root of all, by the parts -/
def rootP (s : Nat) (xs : List Int) : Int := if s = 0 then Sums.sum [] else Peaks.foldj xs

theorem root_none (w : World) (B b : Nat) (v : Value) (xs : List Int) (h : Pk w B b 0 v xs) :
    Calls Tryd.prog 15 #[.pointer (some ⟨b, 0, none⟩)] w fun e w' => e = .returned (.int .i64 (Sums.sum [])) ∧ w' = w := by
  have c0 : w.cell? ⟨b, 0, none⟩ = some (.int .i64 0) := h.lies.cell (i := 0) (by omega)
  clear h
  go_enter Tryd.func15, Tryd.ntmps15
  go_wp2_with (go_at_call 34; refine (WalkSum.sum_any _ _ (by decide)).mono ?_; rintro e w' ⟨rfl, rfl⟩)
  go_ret
  exact ⟨rfl, rfl⟩

set_option maxHeartbeats 1000000 in
theorem root_some (w : World) (B b s : Nat) (v : Value) (xs : List Int) (h : Pk w B b s v xs) (h0 : 1 ≤ s) (h1 : 1 ≤ xs.length) (h2 : xs.length ≤ 1000) (hv : ∀ x ∈ xs, Nums.valid x = true) :
    Calls Tryd.prog 15 #[.pointer (some ⟨b, 0, none⟩)] w fun e w' => e = .returned (.int .i64 (Peaks.foldj xs)) ∧ Below w.heap.size w w' := by
  have c0 : w.cell? ⟨b, 0, none⟩ = some (.int .i64 (s : Int)) := h.lies.cell (i := 0) (by omega)
  have cP := WalkPeaks.parts_any w B b s v xs h h2
  have HV : Hid (∀ x ∈ xs, Nums.valid x = true) := hv
  have i0 : ((s : Int) == 0) = false := by simp; omega
  clear h hv
  go_enter Tryd.func15, Tryd.ntmps15
  go_wp2_with fail
  refine cP.mono ?_
  rintro e w1 ⟨u, rfl, o1, b1⟩
  have HO : Hid (w1.ownsRow w.heap.size 3 1 u xs.length (ints xs)) := o1
  have HB : Hid (Below w.heap.size w w1) := b1
  clear cP o1 b1 c0
  go_wp2_with fail
  go_loopw [3] (fun u wr => ∃ ys : List Int, wr.ownsRow w.heap.size 3 1 u ys.length (ints ys) ∧ 1 ≤ ys.length ∧ ys.length ≤ 1000 ∧ (∀ x ∈ ys, Nums.valid x = true) ∧ Peaks.foldj ys = Peaks.foldj xs ∧ Below w.heap.size w wr) (fun u _ => lenOf u)
  case atStart => exact ⟨xs, HO.out, h1, h2, HV.out, rfl, HB.out⟩
  case round =>
    obtain ⟨ys, o2, y1, y2, yv, yf, hb⟩ := hrel
    obtain ⟨a2, cp2, rfl, hr2, _⟩ := owns_row o2
    have HF : Hid (Peaks.foldj ys = Peaks.foldj xs) := yf
    clear HO HB HV yf
    by_cases hl : 1 < ys.length
    · have i1 : (1 : Int) < (ys.length : Int) := by omega
      obtain ⟨m, hm⟩ : ∃ m, ys.length = m + 2 := ⟨ys.length - 2, by omega⟩
      rw [hm] at o2
      have cJ := WalkJoin.joinLast_any ys (.slice a2 (m + 2) cp2) m w.heap.size wr hm (by omega) o2 yv
      have HB : Hid (Below w.heap.size w wr) := hb
      have HW : Hid (∀ x ∈ Peaks.joinLast ys, Nums.valid x = true) := Peaks.joinLast_valid ys yv
      have HG : Hid (Peaks.foldj (Peaks.joinLast ys) = Peaks.foldj ys) := Peaks.foldj_join ys (by omega)
      have jl := Peaks.joinLast_length ys (by omega)
      have HS : Hid (∀ k, (Value.slice a2 (m + 2) cp2).ownBlock = some k → w.heap.size ≤ k) := fun k hk => (o2.lt k hk).1
      clear o2 hr2 yv hb
      go_wp2_with fail
      refine cJ.mono ?_
      rintro e w4 ⟨v3, rfl, o3, b3, k3⟩
      have HB4 : Hid (Below w.heap.size w w4) := HB.out.trans (k3.below HS.out HB.out.size)
      have HO3 : Hid (w4.ownsRow w.heap.size 3 1 v3 (Peaks.joinLast ys).length (ints (Peaks.joinLast ys))) := by rw [jl, show ys.length - 1 = m + 1 by omega]; exact o3
      have HL : Hid (lenOf v3 = m + 1) := by
        obtain ⟨a3, cp3, rfl, _⟩ := owns_row o3
        rfl
      clear o3 b3 k3 cJ HB
      go_wp2_with fail
      go_roundw
      case rel => exact ⟨Peaks.joinLast ys, HO3.out, by omega, by omega, HW.out, by rw [HG.out, HF.out], HB4.out⟩
      case measure => rw [HL.out]; simp [lenOf]; omega
    · have e1 : ys.length = 1 := by omega
      have i1 : ¬ (1 : Int) < (ys.length : Int) := by omega
      obtain ⟨b2, off2, rfl, hc⟩ := hr2.2.2 (by omega)
      have q0 : wr.cell? ⟨b2, off2, none⟩ = some (.int .i64 (ys.getD 0 0)) := by
        have := hc 0 _ (Lists.ints_at (by omega))
        simpa using this
      have HX : Hid (ys.getD 0 0 = Peaks.foldj xs) := by
        have h := HF.out
        match ys, e1 with
        | [y], _ => exact h
      have HB : Hid (Below w.heap.size w wr) := hb
      have i2 : (0 : Int) < (ys.length : Int) := by omega
      generalize ys.getD 0 0 = y at q0 HX
      generalize ys.length = n at i1 i2 y1 y2
      clear hc hr2 o2 yv hb
      go_wp2_with fail
      go_ret
      exact ⟨by rw [HX.out]; rfl, HB.out⟩

theorem notSum_any (n : Int) (w : World) :
    Calls Tryd.prog 40 #[.int .i64 n] w fun e w' => e = .returned (.bool (!Nums.valid n)) ∧ w' = w := by
  cases h : Nums.valid n
  · have hh : Hid (Nums.valid n = false) := h
    clear h
    go_enter Tryd.func40, Tryd.ntmps40
    go_wp2_with (go_at_call 30; refine (WalkMix.isSum_no _ _ hh.out).mono ?_; rintro e w' ⟨rfl, rfl⟩)
    go_ret
    exact ⟨rfl, rfl⟩
  · have hh : Hid (Nums.valid n = true) := h
    clear h
    go_enter Tryd.func40, Tryd.ntmps40
    go_wp2_with (go_at_call 30; refine (WalkMix.isSum_yes _ _ hh.out).mono ?_; rintro e w' ⟨rfl, rfl⟩)
    go_ret
    exact ⟨rfl, rfl⟩

set_option maxHeartbeats 1000000 in
theorem indexBad_any (l : List Int) (a : Option Addr) (n cap : Nat) (w : World) (hn : n ≤ 200) (hr : Row w a n cap (ints l)) :
    Calls Tryd.prog 57 #[.slice a n cap, .func (.func 40) #[] #[]] w fun e w' =>
      ∃ i : Int, e = .returned (.int .i64 i) ∧ (Trees.allOk l = true → i = -1) ∧ (Trees.allOk l = false → 0 ≤ i) ∧ w' = w := by
  have hln : l.length = n := by rw [← hr.1, Lists.ints_length]
  have HR : Hid (Row w a n cap (ints l)) := hr
  clear hr
  go_enter Tryd.func57, Tryd.ntmps57
  go_wp2_with fail
  go_loop [8] (fun i => ∃ k : Nat, k ≤ n ∧ i = .int .i64 k ∧ Hid (Trees.allOk (l.take k) = true)) (fun i => n - (intOf i).toNat)
  case atStart => exact ⟨0, Nat.zero_le _, rfl, rfl⟩
  case round =>
    obtain ⟨k, hk, rfl, HA⟩ := hrel
    by_cases hlt : k < n
    · obtain ⟨b, off, rfl, hc⟩ := HR.out.2.2 (by omega)
      have hcell := hc k _ (Lists.ints_at (by omega))
      clear hc
      have HS : Hid (Trees.allOk (l.take (k + 1)) = (Trees.allOk (l.take k) && Nums.valid (l.getD k 0))) := Trees.allOk_snoc l k (by omega)
      have HN : Hid (Nums.valid (l.getD k 0) = false → Trees.allOk l = false) := Trees.allOk_no l k (by omega)
      generalize l.getD k 0 = x at hcell HS HN
      cases hx : Nums.valid x
      · have hx' : Hid (Nums.valid x = false) := hx
        have hb : (!Nums.valid x) = true := by rw [hx]; rfl
        clear hx
        go_wp2_with (go_at_call 40; refine (notSum_any _ _).mono ?_; rintro e w' ⟨rfl, rfl⟩; rw [hb])
        go_ret
        exact ⟨_, rfl, fun h => (by rw [HN.out hx'.out] at h; cases h), fun _ => by omega, rfl⟩
      · have hx' : Hid (Nums.valid x = true) := hx
        have hb : (!Nums.valid x) = false := by rw [hx]; rfl
        clear hx
        go_wp2_with (go_at_call 40; refine (notSum_any _ _).mono ?_; rintro e w' ⟨rfl, rfl⟩; rw [hb])
        go_round
        case rel => exact ⟨k + 1, by omega, by go_num, by rw [HS.out, HA.out, hx'.out]; rfl⟩
        case measure => simp [intOf]; omega
    · go_wp2_with fail
      go_ret
      exact ⟨_, rfl, fun _ => rfl, fun h => (by rw [← hln] at hlt; have := HA.out; rw [List.take_of_length_le (by omega), h] at this; cases this), rfl⟩

theorem contains_any (l : List Int) (a : Option Addr) (n cap : Nat) (w : World) (hn : n ≤ 200) (hr : Row w a n cap (ints l)) :
    Calls Tryd.prog 39 #[.slice a n cap, .func (.func 40) #[] #[]] w fun e w' => e = .returned (.bool (!Trees.allOk l)) ∧ w' = w := by
  have HR : Hid (Row w a n cap (ints l)) := hr
  clear hr
  go_enter Tryd.func39, Tryd.ntmps39
  go_wp2_with fail
  refine (indexBad_any l a n cap w hn HR.out).mono ?_
  rintro e w' ⟨i, rfl, hy, hno, rfl⟩
  cases h : Trees.allOk l
  · have h0 := hno h
    have H : Hid (Trees.allOk l = false) := h
    clear hy hno h
    go_wp2_with fail
    go_ret
    exact ⟨by rw [H.out]; rfl, rfl⟩
  · have h0 := hy h
    subst h0
    have H : Hid (Trees.allOk l = true) := h
    clear hy hno h
    go_wp2_with fail
    go_ret
    exact ⟨by rw [H.out]; rfl, rfl⟩

/-- what is wrong with a size and parts -/
def ofE (s : Int) (l : List Int) : Nat := if s < 0 ∨ 200 < s then 1 else if l.length ≠ Peaks.ones s.toNat then 3 else if Trees.allOk l = true then 0 else 1

theorem of_range (l : List Int) (a : Option Addr) (n cap : Nat) (s : Int) (w : World) (h : s < 0 ∨ 200 < s) :
    Calls Tryd.prog 19 #[.int .i64 s, .slice a n cap] w fun e w' => e = .returned (.tuple #[.pointer none, errv (ofE s l)]) ∧ w' = w := by
  rw [show ofE s l = 1 from if_pos h]
  rcases h with h | h
  · go_enter Tryd.func19, Tryd.ntmps19
    go_wp2_with fail
    go_ret2
    exact ⟨rfl, rfl⟩
  · have h' : ¬ s < 0 := by omega
    go_enter Tryd.func19, Tryd.ntmps19
    go_wp2_with fail
    go_ret2
    exact ⟨rfl, rfl⟩

set_option maxHeartbeats 1000000 in
theorem of_shape (l : List Int) (a : Option Addr) (n cap s : Nat) (w : World) (hs : s ≤ 200) (hr : Row w a n cap (ints l)) (h : l.length ≠ Peaks.ones s) :
    Calls Tryd.prog 19 #[.int .i64 (s : Int), .slice a n cap] w fun e w' => e = .returned (.tuple #[.pointer none, errv (ofE s l)]) ∧ w' = w := by
  have hln : l.length = n := by rw [← hr.1, Lists.ints_length]
  have cO := fun w => WalkBits.ones_any (s : Int) s w rfl hs
  have hq : ((n : Int) != (Peaks.ones s : Nat)) = true := by rw [bne_iff_ne]; omega
  rw [show ofE s l = 3 by unfold ofE; rw [if_neg (by omega), Int.toNat_natCast, if_pos h]]
  generalize Peaks.ones s = k at cO hq
  have i0 : ¬ (s : Int) < 0 := by omega
  have i1 : ¬ (200 : Int) < (s : Int) := by omega
  clear hr h
  go_enter Tryd.func19, Tryd.ntmps19
  go_wp2_with fail
  refine (cO _).mono ?_
  rintro e w' ⟨rfl, rfl⟩
  go_wp2_with fail
  go_ret2
  exact ⟨rfl, rfl⟩

set_option maxHeartbeats 1000000 in
theorem of_bad (l : List Int) (a : Option Addr) (n cap s : Nat) (w : World) (hs : s ≤ 200) (hr : Row w a n cap (ints l)) (h : l.length = Peaks.ones s) (hv : Trees.allOk l = false) :
    Calls Tryd.prog 19 #[.int .i64 (s : Int), .slice a n cap] w fun e w' => e = .returned (.tuple #[.pointer none, errv (ofE s l)]) ∧ w' = w := by
  have hln : l.length = n := by rw [← hr.1, Lists.ints_length]
  have cO := fun w => WalkBits.ones_any (s : Int) s w rfl hs
  have o8 := Peaks.ones_le ⟨s, by omega⟩
  simp only at o8
  have hq : ((n : Int) != (Peaks.ones s : Nat)) = false := by rw [← h, hln]; simp
  have cC := contains_any l a n cap w (by omega) hr
  rw [hv] at cC
  rw [show ofE s l = 1 by unfold ofE; rw [if_neg (by omega), Int.toNat_natCast, if_neg (by rw [h]; simp), if_neg (by rw [hv]; simp)]]
  generalize Peaks.ones s = k at cO hq
  have i0 : ¬ (s : Int) < 0 := by omega
  have i1 : ¬ (200 : Int) < (s : Int) := by omega
  clear hr h hv o8
  go_enter Tryd.func19, Tryd.ntmps19
  go_wp2_with fail
  refine (cO _).mono ?_
  rintro e w' ⟨rfl, rfl⟩
  go_wp2_with fail
  refine cC.mono ?_
  rintro e w' ⟨rfl, rfl⟩
  go_wp2_with fail
  go_ret2
  exact ⟨rfl, rfl⟩

set_option maxHeartbeats 1000000 in
theorem of_yes (l : List Int) (a : Option Addr) (n cap s : Nat) (w : World) (hs : s ≤ 200) (hr : Row w a n cap (ints l)) (h : l.length = Peaks.ones s) (hv : Trees.allOk l = true) :
    Calls Tryd.prog 19 #[.int .i64 (s : Int), .slice a n cap] w fun e w' => ∃ b v, e = .returned (.tuple #[.pointer (some ⟨b, 0, none⟩), .nilIface]) ∧ Pk w' w.heap.size b s v l ∧ Below w.heap.size w w' := by
  have hln : l.length = n := by rw [← hr.1, Lists.ints_length]
  have cO := fun w => WalkBits.ones_any (s : Int) s w rfl hs
  have o8 := Peaks.ones_le ⟨s, by omega⟩
  simp only at o8
  have hq : ((n : Int) != (Peaks.ones s : Nat)) = false := by rw [← h, hln]; simp
  have cC := contains_any l a n cap w (by omega) hr
  have cL := WalkPeaks.clone_any l a n cap w (by omega) hr
  rw [hv] at cC
  generalize Peaks.ones s = k at cO hq
  have i0 : ¬ (s : Int) < 0 := by omega
  have i1 : ¬ (200 : Int) < (s : Int) := by omega
  have HN : Hid (n = l.length) := hln.symm
  clear hr h hv o8 hln
  go_enter Tryd.func19, Tryd.ntmps19
  go_wp2_with fail
  refine (cO _).mono ?_
  rintro e w' ⟨rfl, rfl⟩
  go_wp2_with fail
  refine cC.mono ?_
  rintro e w' ⟨rfl, rfl⟩
  go_wp2_with fail
  refine cL.mono ?_
  rintro e w1 ⟨v, rfl, o1, b1⟩
  clear cO cC cL hq
  have HO : Hid (w1.ownsRow w'.heap.size 3 1 v n (ints l)) := o1
  obtain ⟨a1, c1, rfl, z1, z2⟩ := owns_row o1
  clear o1 z1 z2
  go_wp2_with fail
  go_ret2
  refine ⟨w1.heap.size, .slice a1 n c1, rfl, ⟨World.rowIs_alloc _ _ _ _ ?_, b1.size, ?_, ?_⟩, b1.alloc b1.size _⟩
  · intro i hi
    match i, hi with
    | 0, _ => rfl
    | 1, _ => rfl
  · rw [← HN.out]; exact HO.out.alloc _
  · intro e
    have := (HO.out.lt _ e).2
    omega

end Go.Proofs.YtibmgmadoaencabDoor.WalkPeakRoot
