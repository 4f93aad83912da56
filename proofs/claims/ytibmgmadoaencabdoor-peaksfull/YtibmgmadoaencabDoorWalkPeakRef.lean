/-
  What the document's own answers (package witref1) return on peaks: Parts and Ones.
-/
import Derived.Test.YtibmgmadoaencabDoorWalkTreeRef
import Derived.Test.YtibmgmadoaencabDoorPeaks
import Derived.Test.YtibmgmadoaencabDoorKeeps
namespace Go.Proofs.YtibmgmadoaencabDoor.WalkPeakRef
open Go.RowKit
open Lists (Row ints bt)
open Keeps (Kept owns_kept owns_row owns_base)

theorem info3 : (Tryd.prog.info? 3).map (fun i => (i.zero, i.size, i.bytes)) = some (some (.int .i64 0), 1, 8) := by kernel_rfl
theorem ones_half : ∀ n : Fin 201, Peaks.ones n.val = n.val % 2 + Peaks.ones (n.val / 2) := by decide +kernel

theorem ones_any (n : Nat) (w : World) (h1 : n ≤ 200) :
    Calls Tryd.prog 17 #[.int .i64 (n : Int)] w fun e w' => e = .returned (.int .i64 (Peaks.ones n : Nat)) ∧ w' = w := by
  go_enter Tryd.func17, Tryd.ntmps17
  go_wp2_with fail
  go_loop [0, 3] (fun i c => ∃ k d : Nat, k ≤ 200 ∧ d ≤ 200 ∧ i = .int .i64 (k : Int) ∧ c = .int .i64 (d : Int) ∧ Hid (d + Peaks.ones k = Peaks.ones n)) (fun i _ => (intOf i).toNat)
  case atStart => exact ⟨n, 0, h1, by omega, rfl, rfl, Nat.zero_add _⟩
  case round =>
    obtain ⟨k, d, hk, hd, rfl, rfl, HE⟩ := hrel
    by_cases hlt : 0 < k
    · have i1 : (0 : Int) < (k : Int) := by omega
      have HS : Hid (Peaks.ones k = k % 2 + Peaks.ones (k / 2)) := ones_half ⟨k, by omega⟩
      have o1 := Peaks.ones_le ⟨n, by omega⟩
      have HD : Hid (d ≤ 8) := by have := HE.out; simp only at o1; show d ≤ 8; omega
      clear o1
      go_wp2_with fail
      go_round
      case rel => exact ⟨k / 2, d + k % 2, by omega, by have := HD.out; omega, by go_num, by go_num, by have := HE.out; rw [HS.out] at this; show _ = _; omega⟩
      case measure => simp [intOf]; omega
    · obtain rfl : k = 0 := by omega
      have HF : Hid (d = Peaks.ones n) := by have := HE.out; rw [show Peaks.ones 0 = 0 by decide +kernel] at this; exact this
      go_wp2_with fail
      go_ret
      exact ⟨by rw [← HF.out]; rfl, rfl⟩

def lenOf : Value → Nat
  | .slice _ n _ => n
  | _ => 0

set_option maxHeartbeats 1000000 in
theorem parts_any (l : List Int) (a : Option Addr) (n cap : Nat) (w : World) (hn : n ≤ 200) (hr : Row w a n cap (ints l)) (hv : ∀ x ∈ l, Nums.valid x = true) :
    Calls Tryd.prog 14 #[.slice a n cap] w fun e w' => ∃ v, e = .returned v ∧ w'.ownsRow w.heap.size 3 1 v (Peaks.parts l).length (ints (Peaks.parts l)) ∧ Below w.heap.size w w' := by
  have hln : l.length = n := by rw [← hr.1, Lists.ints_length]
  obtain ⟨i0, hi, hz0, hz1, hz2⟩ := info_parts info3
  have HR : Hid (Row w a n cap (ints l)) := hr
  have HV : Hid (∀ x ∈ l, Nums.valid x = true) := hv
  clear hr hv
  go_enter Tryd.func14, Tryd.ntmps14
  go_wp2_with fail
  go_loopw [0, 3, 4] (fun s v c wr => ∃ (m : List Int) (p : Option Addr) (r cp : Nat) (ps : List Int) (k : Nat), s = .slice p r cp ∧ r ≤ 200 ∧ Row w p r cp (ints m) ∧ (∀ x ∈ m, Nums.valid x = true) ∧
      wr.ownsRow w.heap.size 3 1 v ps.length (ints ps) ∧ ps.length + r ≤ 200 ∧ Hid (ps ++ Peaks.parts m = Peaks.parts l) ∧ c = .int .i64 (k : Int) ∧ k ≤ 256 ∧ r < 2 * k ∧ Hid (∃ j : Nat, k = 2 ^ j) ∧ Below w.heap.size w wr) (fun s _ _ _ => lenOf s)
  case atStart => exact ⟨l, a, n, cap, [], 256, rfl, hn, HR.out, HV.out, World.ownsRow_nil _ _ _ _, by simp; omega, List.nil_append _, rfl, by omega, by omega, ⟨8, rfl⟩, Below.refl _ _⟩
  case round =>
    obtain ⟨m, p, r, cp, ps, k, rfl, hr2, hrow, hmv, hown, hpl, HE, rfl, hk, hkr, HP, hb⟩ := hrel
    have hml : m.length = r := by rw [← hrow.1, Lists.ints_length]
    have HRM : Hid (Row w p r cp (ints m)) := hrow
    have HMV : Hid (∀ x ∈ m, Nums.valid x = true) := hmv
    have HO : Hid (wr.ownsRow w.heap.size 3 1 u3 ps.length (ints ps)) := hown
    have HB : Hid (Below w.heap.size w wr) := hb
    clear hrow hmv hown hb HR HV
    by_cases h0 : 0 < r
    · have i1 : (0 : Int) < (r : Int) := by omega
      go_wp2_with fail
      go_loop [4] (fun c => ∃ k : Nat, c = .int .i64 (k : Int) ∧ k ≤ 256 ∧ r < 2 * k ∧ Hid (∃ j : Nat, k = 2 ^ j)) (fun c => (intOf c).toNat)
      case atStart => exact ⟨k, rfl, hk, hkr, HP⟩
      case round =>
        clear HP hk hkr
        obtain ⟨k, rfl, hk, hkr, HP⟩ := hrel
        by_cases h1 : r < k
        · have i2 : (r : Int) < (k : Int) := by omega
          have HP2 : Hid (∃ j : Nat, k / 2 = 2 ^ j ∧ k = 2 * 2 ^ j) := by
            obtain ⟨j, hj⟩ := HP.out
            match j, hj with
            | 0, hj => exfalso; simp at hj; omega
            | j + 1, hj => exact ⟨j, by rw [hj, Nat.pow_succ]; omega, by rw [hj, Nat.pow_succ]; omega⟩
          go_wp2_with fail
          go_round
          case rel =>
            obtain ⟨j, hj, hj2⟩ := HP2.out
            exact ⟨k / 2, by go_num, by omega, by omega, ⟨j, hj⟩⟩
          case measure => simp [intOf]; omega
        · have i2 : ¬ (r : Int) < (k : Int) := by omega
          have HK : Hid (Peaks.hi r = k) := by
            obtain ⟨j, hj⟩ := HP.out
            rw [hj]
            exact Peaks.hi_unique r j (by omega) (by omega)
          have k1 : 1 ≤ k := by omega
          have HM : Hid (Peaks.parts m = Trees.root (m.take k) :: Peaks.parts (m.drop k)) := by
            have h := Peaks.parts_more m (by omega)
            rw [hml, HK.out] at h
            exact h
          have i3 : (k : Int) ≤ (cp : Int) := by have := HRM.out.2.1; omega
          have i4 : (k : Int) ≤ (r : Int) := by omega
          obtain ⟨b1, off1, rfl, _⟩ := HRM.out.2.2 h0
          have r1 : Row wr (some ⟨b1, off1, none⟩) k cp (ints (m.take k)) := by rw [Lists.ints_take]; exact (HRM.out.take k (by omega)).below HB.out
          have cR := WalkTreeRef.root_le (m.take k) _ k cp wr (by omega) r1 (fun x hx => HMV.out x (List.mem_of_mem_take hx))
          have HRV : Hid (Nums.valid (Trees.root (m.take k)) = true) := Trees.root_valid _ fun x hx => HMV.out x (List.mem_of_mem_take hx)
          generalize Trees.root (m.take k) = x at cR HM HRV
          clear r1
          go_wp2_with fail
          refine cR.mono ?_
          rintro e w1 ⟨rfl, b1_⟩
          have HO1 : Hid (w1.ownsRow w.heap.size 3 1 u3 ps.length (ints ps)) := owns_kept HO.out (Kept.of_below (fun _ => False) b1_) fun _ _ q => q
          have HB1 : Hid (Below w.heap.size w w1) := bt HB.out b1_
          have HD : Hid (Row w (if cp = k then some ⟨b1, off1, none⟩ else some ⟨b1, off1 + k, none⟩) (r - k) (cp - k) (ints (m.drop k))) := by
            have hc := HRM.out.2.1
            rw [Lists.ints_drop]
            split
            · exact ⟨by simp [Lists.ints_length]; omega, by omega, fun h => by omega⟩
            · exact HRM.out.drop k (by omega)
          clear cR b1_ HO HB HRM
          go_wp2_with (at_builtin; refine wpList_append_own _ rfl (.tmp 19) (.tmp 21) 22 rfl w.heap.size 3 i0 (.int .i64 0) 1 8 Tryd.underlying22 hi hz0 hz1 hz2 rfl (by decide) _ _ _ rfl (HO1.out.alloc _) ⟨_, 0, none⟩ 1 1 [.int .i64 x] rfl rfl (cell_one_new _ _ _) (fun u hu => by rw [List.mem_singleton.1 hu]; rfl) (by unfold maxLen; omega) (by omega) (by have := HB1.out.size; simp; omega) ?_; intro v1 wn o1 g1 _)
          have HBN : Hid (Below w.heap.size w wn) := (HB1.out.alloc HB1.out.size _).grown g1 (by have := HB1.out.size; simp; omega) (fun k hk => (HO1.out.lt k hk).1)
          have HON : Hid (wn.ownsRow w.heap.size 3 1 v1 (ps ++ [x]).length (ints (ps ++ [x]))) := by
            rw [show (ps ++ [x]).length = ps.length + 1 by simp, show ints (ps ++ [x]) = ints ps ++ [.int .i64 x] by simp [ints]]
            exact o1
          have HEN : Hid ((ps ++ [x]) ++ Peaks.parts (m.drop k) = Peaks.parts l) := by
            show _ = _
            rw [← HE.out, HM.out, List.append_assoc]; rfl
          clear g1 o1 HO1 HB1
          refine ⟨⟨m.drop k, _, r - k, cp - k, ps ++ [x], k, rfl, by omega, HD.out, fun y hy => HMV.out y (List.mem_of_mem_drop hy), HON.out, by simp; omega, HEN, rfl, hk, by omega, HP, HBN.out⟩, ?_⟩
          simp [lenOf]; omega
    · obtain rfl : r = 0 := by omega
      have HF : Hid (wr.ownsRow w.heap.size 3 1 u3 (Peaks.parts l).length (ints (Peaks.parts l))) := by
        have h := HE.out
        rw [Peaks.parts_none m hml, List.append_nil] at h
        rw [← h]; exact HO.out
      go_wp2_with fail
      go_ret
      exact ⟨_, rfl, HF.out, HB.out⟩

end Go.Proofs.YtibmgmadoaencabDoor.WalkPeakRef
