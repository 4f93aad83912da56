/-
  What the document's own answers (package witref1) return on entries of which nothing is known: some bytes, some leafs.
-/
import Derived.Test.YtjacioplocmciagGreatDoorEntRef
namespace Go.Proofs.YtjacioplocmciagGreatDoor.WalkAnyLeaf
open Go.RowKit
open Lists (Row ints bt)
open Keeps (Kept owns_kept owns_row owns_base)
open Wides (Wide)
open Entries (Entry)
open EntRows (cells cells_append)
open Nums (str)
open WalkEntryRef (aggE sizeE)

theorem byte_of (z : Int) : ∃ c : UInt8, z % 256 = (c.toNat : Int) := by
  refine ⟨UInt8.ofNat (z % 256).toNat, ?_⟩
  rw [UInt8.toNat_ofNat']
  omega
set_option maxHeartbeats 1000000 in
theorem bytes_some (t : Int) (d : ByteArray) (w : World) (hd : d.size ≤ 140737488351232) :
    Calls Tryz.prog 129 #[.agg #[.int .i64 t, .string d]] w fun e w' => ∃ s : ByteArray, e = .returned (.string s) ∧ s.size = 4 + d.size ∧ Below w.heap.size w w' := by
  go_enter Tryz.func129, Tryz.ntmps129
  go_upto_region 2 with fail
  obtain ⟨x0, e0⟩ := byte_of (wrap64 (t.tdiv 65536))
  obtain ⟨x1, e1⟩ := byte_of ((wrap64 (t.tdiv 256)).tmod 256)
  obtain ⟨x2, e2⟩ := byte_of (t.tmod 256)
  obtain ⟨x3, e3⟩ := byte_of (d.size : Int)
  rw [e0, e1, e2, e3]
  clear e0 e1 e2 e3
  have b0 : Below w.heap.size w ((w.alloc (.cells #[.int .i64 t, .string d] 79)).alloc (.cells #[.int .u8 (x0.toNat : Int), .int .u8 (x1.toNat : Int), .int .u8 (x2.toNat : Int), .int .u8 (x3.toNat : Int)] 5)) := ((Below.refl _ _).alloc (Nat.le_refl _) _).alloc (by simp) _
  have o0 : ((w.alloc (.cells #[.int .i64 t, .string d] 79)).alloc (.cells #[.int .u8 (x0.toNat : Int), .int .u8 (x1.toNat : Int), .int .u8 (x2.toNat : Int), .int .u8 (x3.toNat : Int)] 5)).ownsRow w.heap.size 5 1 (.slice (some ⟨w.heap.size + 1, 0, none⟩) 4 4) 4 (WalkMix.cells [x0, x1, x2, x3]) := by
    refine ⟨rfl, .inr ⟨w.heap.size + 1, 4, #[.int .u8 (x0.toNat : Int), .int .u8 (x1.toNat : Int), .int .u8 (x2.toNat : Int), .int .u8 (x3.toNat : Int)], rfl, by omega, ?_, Nat.le_refl _, by decide, rfl, rfl⟩⟩
    have := heap_alloc_new (w.alloc (.cells #[.int .i64 t, .string d] 79)) (.cells #[.int .u8 (x0.toNat : Int), .int .u8 (x1.toNat : Int), .int .u8 (x2.toNat : Int), .int .u8 (x3.toNat : Int)] 5)
    simpa using this
  have k1 : ((w.alloc (.cells #[.int .i64 t, .string d] 79)).alloc (.cells #[.int .u8 (x0.toNat : Int), .int .u8 (x1.toNat : Int), .int .u8 (x2.toNat : Int), .int .u8 (x3.toNat : Int)] 5)).cell? ⟨w.heap.size, 1, none⟩ = some (.string d) := by rw [World.cell?_alloc_past _ _ _ (by simp)]; simp
  have s0 : ((w.alloc (.cells #[.int .i64 t, .string d] 79)).alloc (.cells #[.int .u8 (x0.toNat : Int), .int .u8 (x1.toNat : Int), .int .u8 (x2.toNat : Int), .int .u8 (x3.toNat : Int)] 5)).heap.size = w.heap.size + 2 := by simp
  generalize (w.alloc (.cells #[.int .i64 t, .string d] 79)).alloc (.cells #[.int .u8 (x0.toNat : Int), .int .u8 (x1.toNat : Int), .int .u8 (x2.toNat : Int), .int .u8 (x3.toNat : Int)] 5) = w1 at b0 o0 k1 s0 ⊢
  obtain ⟨i0, hi, hz0, hz1, hz2⟩ := info_parts WalkMix.info5
  obtain ⟨c, HC⟩ : ∃ c, Hid (grownCap w1 d.size 0 5 = c) := ⟨_, rfl⟩
  have kb := run_bytes_of_string (P := Tryz.prog) w1 9 94 5 d Tryz.underlying9 Tryz.underlying94 Tryz.underlying5
  rw [HC.out] at kb
  clear HC
  obtain ⟨fr, HF⟩ : ∃ fr, Hid (((bytesRow d c).size, (bytesRow d c).size + 1) = fr) := ⟨_, rfl⟩
  rw [HF.out] at kb
  clear HF
  have hsl : (WalkMix.cells d.data.toList).length = d.size * 1 := by simp [WalkMix.cells]
  have HSZ : Hid ((str ([x0, x1, x2, x3] ++ d.data.toList)).size = 4 + d.size) := by
    show _ = _
    rw [Nums.str_size]
    simp
    omega
  go_wp2_with (at_builtin; go_must (refine wpList_append_own _ rfl (.tmp 22) (.tmp 25) 94 rfl w.heap.size 5 i0 (.int .u8 0) 1 1 Tryz.underlying94 hi hz0 hz1 hz2 rfl (by decide) _ _ _ rfl (o0.drew.alloc _) ⟨w.heap.size + 2, 0, none⟩ d.size c (WalkMix.cells d.data.toList) rfl hsl (WalkRef.bytes_at _ _ (by simp [s0]) d c _ fr) (WalkRef.cells_one _) (by unfold maxLen; omega) (by omega) (by simp; omega) ?_); intro v1 w2 o1 g1 z1; obtain ⟨g, cap, rfl, kc⟩ := WalkMix.ownsRow_cells (l := [x0, x1, x2, x3] ++ d.data.toList) (4 + d.size) (by rw [WalkMix.cells_append]; exact o1) (by simp; omega) (by omega); have b1 : Below w.heap.size w w2 := ((b0.drew.alloc (by simp; omega) _)).grown g1 (by simp; omega) (fun k hk => ((o0.lt k hk).1)); clear g1 o1 o0 kb z1)
  go_ret
  exact ⟨_, rfl, HSZ.out, b1⟩

set_option maxHeartbeats 1000000 in
theorem leaf_wide (s : ByteArray) (w : World) (hs : s.size ≤ 140737488355000) :
    Calls Tryz.prog 128 #[.string s] w fun e w' => e = .returned (.int .i64 (Sums.sum (0 :: s.data.toList))) ∧ Below w.heap.size w w' := by
  have h0 : (w.alloc (.cells #[.int .u8 0] 5)).ownsRow w.heap.size 5 1 (.slice (some ⟨w.heap.size, 0, none⟩) 1 1) 1 (WalkMix.cells [0]) :=
    ⟨rfl, .inr ⟨w.heap.size, 1, #[.int .u8 0], rfl, Nat.le_refl _, heap_alloc_new w _, Nat.le_refl _, by decide, rfl, rfl⟩⟩
  obtain ⟨i0, hi, hz0, hz1, hz2⟩ := info_parts WalkMix.info5
  obtain ⟨c, HC⟩ : ∃ c, Hid (grownCap (w.alloc (.cells #[.int .u8 0] 5)) s.size 0 5 = c) := ⟨_, rfl⟩
  have kb := run_bytes_of_string (P := Tryz.prog) (w.alloc (.cells #[.int .u8 0] 5)) 9 94 5 s Tryz.underlying9 Tryz.underlying94 Tryz.underlying5
  rw [HC.out] at kb
  clear HC
  obtain ⟨fr, HF⟩ : ∃ fr, Hid (((bytesRow s c).size, (bytesRow s c).size + 1) = fr) := ⟨_, rfl⟩
  rw [HF.out] at kb
  clear HF
  have hsl : (WalkMix.cells s.data.toList).length = s.size * 1 := by simp [WalkMix.cells]
  go_enter Tryz.func128, Tryz.ntmps128
  go_wp2_with (first
    | (at_builtin; refine wpList_append_own _ rfl (.tmp 5) (.tmp 7) 94 rfl w.heap.size 5 i0 (.int .u8 0) 1 1 Tryz.underlying94 hi hz0 hz1 hz2 rfl (by decide) _ _ _ rfl (h0.drew.alloc _) ⟨w.heap.size + 1, 0, none⟩ s.size c (WalkMix.cells s.data.toList) rfl hsl (WalkRef.bytes_at _ _ (by simp) s c _ fr) (WalkRef.cells_one _) (by unfold maxLen; omega) (by omega) (by simp; omega) ?_; intro v1 w1 o1 g1 _; obtain ⟨g, cap, rfl, kc⟩ := WalkMix.ownsRow_cells (l := 0 :: s.data.toList) (1 + s.size) o1 (by simp; omega) (by omega); have b1 : Below w.heap.size w w1 := ((((Below.refl w.heap.size w).alloc (Nat.le_refl _) _).alloc (by simp) _).drew).grown g1 (by simp; omega) (fun k hk => ((h0.lt k hk).1)); clear g1 o1 h0 kb)
    | (go_at_call 126; refine (WalkRef.sum_any _ _ (by rw [Nums.str_size]; unfold maxLen; simp; omega)).mono ?_; rintro e w2 ⟨rfl, rfl⟩))
  go_ret
  exact ⟨rfl, b1⟩

set_option maxHeartbeats 1000000 in
/-- some leafs, as many, each a sum -/
theorem leafs_some (l : List Entry) (a : Option Addr) (n cap : Nat) (w : World) (hr : Wide 2 w a n cap (cells l)) (hn : n ≤ 200) (hd : ∀ e ∈ l, e.2.size ≤ 140737488351232) :
    Calls Tryz.prog 62 #[.slice a n cap] w fun e w' => ∃ v, e = .returned v ∧ ∃ zs : List Int, zs.length = n ∧ (∀ z ∈ zs, Nums.valid z = true) ∧ w'.ownsRow w.heap.size 3 1 v zs.length (ints zs) ∧ Below w.heap.size w w' := by
  have hln := EntRows.len_of hr
  obtain ⟨i0, hi, hz0, hz1, hz2⟩ := info_parts WalkUnpackRef.info3
  have HR : Hid (Wide 2 w a n cap (cells l)) := hr
  have HD : Hid (∀ e ∈ l, e.2.size ≤ 140737488351232) := hd
  clear hr hd
  have a23 := aggE
  have z23 := sizeE
  go_enter Tryz.func62, Tryz.ntmps62
  go_wp2_with fail
  go_loopw [3, 4] (fun v i wr => ∃ (k : Nat) (zs : List Int), k ≤ n ∧ i = .int .i64 (k : Int) ∧ Hid (zs.length = k) ∧ Hid (∀ z ∈ zs, Nums.valid z = true) ∧ wr.ownsRow w.heap.size 3 1 v k (ints zs) ∧ Below w.heap.size w wr) (fun _ i _ => n - (intOf i).toNat)
  case atStart => exact ⟨0, [], Nat.zero_le _, rfl, rfl, fun z hz => (by cases hz), World.ownsRow_nil _ _ _ _, Below.refl _ _⟩
  case round =>
    obtain ⟨k, zs, hk, rfl, HZ, HV, hown, hb⟩ := hrel
    have HO : Hid (wr.ownsRow w.heap.size 3 1 u3 k (ints zs)) := hown
    by_cases hlt : k < n
    · have i1 : (k : Int) < (n : Int) := by omega
      obtain ⟨b1, off1, rfl, _⟩ := (HR.out.below hb).2.2 (by omega)
      obtain ⟨p0, p1⟩ := EntRows.at_two (HR.out.below hb) k (by omega)
      have hdk : (l[k]'(by omega)).2.size ≤ 140737488351232 := HD.out _ (List.getElem_mem _)
      generalize l[k]'(by omega) = x at p0 p1 hdk
      obtain ⟨t, d⟩ := x
      simp only at p0 p1 hdk
      have HB : Hid (Below w.heap.size w wr) := hb
      have HDK : Hid (d.size ≤ 140737488351232) := hdk
      clear hb hown hdk
      go_wp2_with fail
      refine (bytes_some t d _ (by have := HDK.out; omega)).mono ?_
      rintro e w2 ⟨q, rfl, hq, b2⟩
      have hsz : q.size ≤ 140737488355000 := by have := HDK.out; omega
      clear hq
      go_wp2_with fail
      refine (leaf_wide q _ hsz).mono ?_
      rintro e w3 ⟨rfl, b3⟩
      have HO3 : Hid (w3.ownsRow w.heap.size 3 1 u3 k (ints zs)) := owns_kept HO.out (Kept.of_below (fun _ => False) (bt b2 b3)) fun _ _ q => q
      have HB3 : Hid (Below w.heap.size w w3) := bt HB.out (bt b2 b3)
      have HX : Hid (Nums.valid (Sums.sum (0 :: q.data.toList)) = true) := by
        have := Sums.sum_bd (0 :: q.data.toList)
        exact Nums.valid_iff.2 ⟨this.1, this.2⟩
      generalize Sums.sum (0 :: q.data.toList) = X at HX
      clear b2 b3 HO HB hsz
      go_wp2_with (at_builtin; go_must (refine wpList_append_own _ rfl (.tmp 18) (.tmp 20) 23 rfl w.heap.size 3 i0 (.int .i64 0) 1 8 Tryz.underlying23 hi hz0 hz1 hz2 rfl (by decide) _ _ _ rfl (HO3.out.alloc _) ⟨_, 0, none⟩ 1 1 [.int .i64 X] rfl rfl (cell_one_new _ _ _) (fun u hu => by rw [List.mem_singleton.1 hu]; rfl) (by unfold maxLen; omega) (by omega) (by have := HB3.out.size; simp; omega) ?_); intro v1 wn o1 g1 z1; clear z1)
      have HBN : Hid (Below w.heap.size w wn) := (HB3.out.alloc HB3.out.size _).grown g1 (by have := HB3.out.size; simp; omega) (fun k hk => (HO3.out.lt k hk).1)
      have HON : Hid (wn.ownsRow w.heap.size 3 1 v1 (k + 1) (ints (zs ++ [X]))) := by
        rw [show ints (zs ++ [X]) = ints zs ++ [.int .i64 X] by simp [ints]]
        exact o1
      clear g1 o1 HO3 HB3
      go_roundw
      case rel => exact ⟨k + 1, zs ++ [X], by omega, by go_num, by show _ = _; rw [List.length_append, HZ.out]; rfl, fun z hz => (by rcases List.mem_append.1 hz with hz | hz; exact HV.out z hz; rw [List.mem_singleton.1 hz]; exact HX.out), HON.out, HBN.out⟩
      case measure => simp [intOf]; omega
    · have i1 : ¬ (k : Int) < (n : Int) := by omega
      obtain rfl : k = n := by omega
      go_wp2_with fail
      go_ret
      exact ⟨_, rfl, zs, HZ.out, HV.out, by rw [HZ.out]; exact HO.out, hb⟩

end Go.Proofs.YtjacioplocmciagGreatDoor.WalkAnyLeaf
