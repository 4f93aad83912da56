/-
  What the document's own answers (package witref1) return on entries: Entry, Bytes, take, Decode, Entries, EntryLeafs, Unpack.
-/
import Derived.Test.YticadkggaanbjaaGreatDoorRefTree
import Derived.Test.YticadkggaanbjaaGreatDoorListRows
import Derived.StillTail
import Derived.BigRegion
import Derived.Deep.RegionWith
import Derived.Deep.DeepMust
import Derived.Deep.CutBlock
import Derived.Deep.MidRow
import Derived.Laws.ResultCell
namespace Go.Proofs.YticadkggaanbjaaGreatDoor.WalkEntryRef
open Go.RowKit
open Lists (Row ints bt)
open Keeps (Kept owns_kept owns_row owns_base)
open Wides (Wide)
open Entries (Entry entE take1 takes made)
open EntRows (cells cells_append)
open Nums (str)

theorem aggE (w : World) : (isAgg 38).run Tryz.prog w = .ok true w := by kernel_rfl
theorem sizeE (w : World) : (sizeOf 38).run Tryz.prog w = .ok 2 w := by kernel_rfl

theorem entry_any (t : Int) (d : ByteArray) (w : World) (hd : d.size ≤ maxLen) :
    Calls Tryz.prog 119 #[.agg #[.int .i64 t, .string d]] w fun e w' => e = .returned (.int .i64 (entE (t, d) : Nat)) ∧ Below w.heap.size w w' := by
  have b0 : Below w.heap.size w (w.alloc (.cells #[.int .i64 t, .string d] 38)) := (Below.refl _ _).alloc (Nat.le_refl _) _
  have hm : (d.size : Int) ≤ 9223372036854775807 := by unfold maxLen at hd; omega
  clear hd
  by_cases h0 : t < 0
  · have HV : Hid (entE (t, d) = 1) := if_pos (.inl h0)
    go_enter Tryz.func119, Tryz.ntmps119
    go_wp2_with fail
    go_ret
    exact ⟨by rw [HV.out]; rfl, b0⟩
  · by_cases h1 : 1000000 < t
    · have HV : Hid (entE (t, d) = 1) := if_pos (.inr h1)
      go_enter Tryz.func119, Tryz.ntmps119
      go_wp2_with fail
      go_ret
      exact ⟨by rw [HV.out]; rfl, b0⟩
    · by_cases h2 : 200 < d.size
      · have HV : Hid (entE (t, d) = 4) := by show _ = _; unfold entE; rw [if_neg (by simp only; omega), if_pos h2]
        have i2 : (200 : Int) < (d.size : Int) := by omega
        clear h2
        go_enter Tryz.func119, Tryz.ntmps119
        go_wp2_with fail
        go_ret
        exact ⟨by rw [HV.out]; rfl, b0⟩
      · have HV : Hid (entE (t, d) = 0) := by show _ = _; unfold entE; rw [if_neg (by simp only; omega), if_neg h2]
        have i2 : ¬ (200 : Int) < (d.size : Int) := by omega
        clear h2
        go_enter Tryz.func119, Tryz.ntmps119
        go_wp2_with fail
        go_ret
        exact ⟨by rw [HV.out]; rfl, b0⟩

/-- the first four bytes -/
def head4 (t : Int) (n : Nat) : List UInt8 := [UInt8.ofNat (t.toNat / 65536), UInt8.ofNat (t.toNat / 256), UInt8.ofNat t.toNat, UInt8.ofNat n]
theorem bytes_eq (t : Int) (d : ByteArray) : Entries.bytes (t, d) = head4 t d.size ++ d.data.toList := rfl
theorem cells_head (t : Int) (n : Nat) (h0 : 0 ≤ t) (h1 : t ≤ 1000000) (h2 : n ≤ 200) : WalkMix.cells (head4 t n) = [.int .u8 (t / 65536), .int .u8 (t / 256 % 256), .int .u8 (t % 256), .int .u8 (n : Int)] := by
  simp only [WalkMix.cells, head4, List.map_cons, List.map_nil, UInt8.toNat_ofNat', List.cons.injEq, Value.int.injEq, true_and, and_true]
  omega

set_option maxHeartbeats 1000000 in
theorem bytes_any (t : Int) (d : ByteArray) (w : World) (h : entE (t, d) = 0) :
    Calls Tryz.prog 106 #[.agg #[.int .i64 t, .string d]] w fun e w' => e = .returned (.string (str (Entries.bytes (t, d)))) ∧ Below w.heap.size w w' := by
  obtain ⟨h0, h1, h2⟩ := Entries.ent_ok h
  simp only at h0 h1 h2
  have i2 : (d.size : Int) ≤ 200 := by omega
  have i3 : (0 : Int) ≤ (d.size : Int) := by omega
  clear h
  go_enter Tryz.func106, Tryz.ntmps106
  go_upto_region 2 with fail
  have b0 : Below w.heap.size w ((w.alloc (.cells #[.int .i64 t, .string d] 38)).alloc (.cells #[.int .u8 (t / 65536), .int .u8 (t / 256 % 256), .int .u8 (t % 256), .int .u8 (d.size : Int)] 5)) := ((Below.refl _ _).alloc (Nat.le_refl _) _).alloc (by simp) _
  have o0 : ((w.alloc (.cells #[.int .i64 t, .string d] 38)).alloc (.cells #[.int .u8 (t / 65536), .int .u8 (t / 256 % 256), .int .u8 (t % 256), .int .u8 (d.size : Int)] 5)).ownsRow w.heap.size 5 1 (.slice (some ⟨w.heap.size + 1, 0, none⟩) 4 4) 4 (WalkMix.cells (head4 t d.size)) := by
    rw [cells_head t d.size h0 h1 h2]
    refine ⟨rfl, .inr ⟨w.heap.size + 1, 4, #[.int .u8 (t / 65536), .int .u8 (t / 256 % 256), .int .u8 (t % 256), .int .u8 (d.size : Int)], rfl, by omega, ?_, Nat.le_refl _, by decide, rfl, rfl⟩⟩
    have := heap_alloc_new (w.alloc (.cells #[.int .i64 t, .string d] 38)) (.cells #[.int .u8 (t / 65536), .int .u8 (t / 256 % 256), .int .u8 (t % 256), .int .u8 (d.size : Int)] 5)
    simpa using this
  have k1 : ((w.alloc (.cells #[.int .i64 t, .string d] 38)).alloc (.cells #[.int .u8 (t / 65536), .int .u8 (t / 256 % 256), .int .u8 (t % 256), .int .u8 (d.size : Int)] 5)).cell? ⟨w.heap.size, 1, none⟩ = some (.string d) := by rw [World.cell?_alloc_past _ _ _ (by simp)]; simp
  have s0 : ((w.alloc (.cells #[.int .i64 t, .string d] 38)).alloc (.cells #[.int .u8 (t / 65536), .int .u8 (t / 256 % 256), .int .u8 (t % 256), .int .u8 (d.size : Int)] 5)).heap.size = w.heap.size + 2 := by simp
  generalize (w.alloc (.cells #[.int .i64 t, .string d] 38)).alloc (.cells #[.int .u8 (t / 65536), .int .u8 (t / 256 % 256), .int .u8 (t % 256), .int .u8 (d.size : Int)] 5) = w1 at b0 o0 k1 s0 ⊢
  obtain ⟨i0, hi, hz0, hz1, hz2⟩ := info_parts WalkMix.info5
  obtain ⟨c, HC⟩ : ∃ c, Hid (grownCap w1 d.size 0 5 = c) := ⟨_, rfl⟩
  have kb := run_bytes_of_string (P := Tryz.prog) w1 9 154 5 d Tryz.underlying9 Tryz.underlying154 Tryz.underlying5
  rw [HC.out] at kb
  clear HC
  obtain ⟨fr, HF⟩ : ∃ fr, Hid (((bytesRow d c).size, (bytesRow d c).size + 1) = fr) := ⟨_, rfl⟩
  rw [HF.out] at kb
  clear HF
  have hsl : (WalkMix.cells d.data.toList).length = d.size * 1 := by simp [WalkMix.cells]
  go_wp2_with (at_builtin; go_must (refine wpList_append_own _ rfl (.tmp 22) (.tmp 25) 154 rfl w.heap.size 5 i0 (.int .u8 0) 1 1 Tryz.underlying154 hi hz0 hz1 hz2 rfl (by decide) _ _ _ rfl (o0.drew.alloc _) ⟨w.heap.size + 2, 0, none⟩ d.size c (WalkMix.cells d.data.toList) rfl hsl (WalkRef.bytes_at _ _ (by simp [s0]) d c _ fr) (WalkRef.cells_one _) (by unfold maxLen; omega) (by omega) (by simp; omega) ?_); intro v1 w2 o1 g1 z1; obtain ⟨g, cap, rfl, kc⟩ := WalkMix.ownsRow_cells (l := head4 t d.size ++ d.data.toList) (4 + d.size) (by rw [WalkMix.cells_append]; exact o1) (by simp [head4]; omega) (by omega); have b1 : Below w.heap.size w w2 := ((b0.drew.alloc (by simp; omega) _)).grown g1 (by simp; omega) (fun k hk => ((o0.lt k hk).1)); clear g1 o1 o0 kb z1)
  go_ret
  exact ⟨rfl, b1⟩

theorem cut_mid (a b c n : UInt8) (r : List UInt8) (k : Nat) : (str (a :: b :: c :: n :: r)).extract 4 (4 + k) = str (r.take k) := by
  apply ByteArray.ext
  apply Array.toList_inj.1
  simp [str]
theorem cut_end (a b c n : UInt8) (r : List UInt8) (k : Nat) : (str (a :: b :: c :: n :: r)).extract (4 + k) (r.length + 4) = str (r.drop k) := by
  apply ByteArray.ext
  apply Array.toList_inj.1
  have e : r.length + 4 - (4 + k) = r.length - k := by omega
  have d : (a :: b :: c :: n :: r).drop (4 + k) = r.drop k := by rw [Nat.add_comm]; rfl
  have q : (r.drop k).take (r.length - k) = r.drop k := List.take_of_length_le (by rw [List.length_drop]; omega)
  simp [str, e, d, q]
theorem made_fst (a b c : UInt8) (d : List UInt8) : (a.toNat : Int) * 65536 + (b.toNat : Int) * 256 + (c.toNat : Int) = (made a b c d).1 := by
  simp [made]

theorem zero_test (k : Nat) : (((k : Nat) : Int) == 0) = decide (k = 0) := by
  by_cases h : k = 0
  · subst h; rfl
  · rw [decide_eq_false h, beq_eq_false_iff_ne]; omega
theorem zero_row (w : World) : (w.alloc (.cells #[.int .i64 0, .string ⟨#[]⟩] 38)).rowIs w.heap.size 38 2 (fun j => if j = 0 then .int .i64 0 else .string ⟨#[]⟩) := World.rowIs_alloc _ _ _ _ (fun j hj => by match j, hj with | 0, _ | 1, _ => rfl | j + 2, h => simp at h; omega)

end Go.Proofs.YticadkggaanbjaaGreatDoor.WalkEntryRef

/-
  What the document's own answers (package witref1) return on entries: Decode, Entries, EntryLeafs, Unpack.
-/
namespace Go.Proofs.YticadkggaanbjaaGreatDoor.WalkEntriesRef
open Go.RowKit
open Lists (Row ints bt)
open Keeps (Kept owns_kept owns_row owns_base)
open Wides (Wide)
open Entries (Entry entE take1 takes made dec unpack entsE firstE)
open EntRows (cells cells_append)
open Nums (str)
open WalkEntryRef (aggE sizeE zero_row)

theorem str_four {s : ByteArray} {a b c n : UInt8} {r : List UInt8} (h : s.data.toList = a :: b :: c :: n :: r) : s = str (a :: b :: c :: n :: r) := by rw [← h]; rfl

set_option maxHeartbeats 1000000 in
theorem entries_any (l : List Entry) (a : Option Addr) (n cap : Nat) (w : World) (hr : Wide 2 w a n cap (cells l)) (hz : ∀ e ∈ l, e.2.size ≤ maxLen) :
    Calls Tryz.prog 58 #[.slice a n cap] w fun e w' => e = .returned (.int .i64 (entsE l : Nat)) ∧ Below w.heap.size w w' := by
  have hln := EntRows.len_of hr
  have HR : Hid (Wide 2 w a n cap (cells l)) := hr
  have HZ : Hid (∀ e ∈ l, e.2.size ≤ maxLen) := hz
  clear hr hz
  have a23 := aggE
  have z23 := sizeE
  by_cases hn : 200 < n
  · have i0 : (200 : Int) < (n : Int) := by omega
    have HV : Hid (entsE l = 4) := if_pos (by omega)
    go_enter Tryz.func58, Tryz.ntmps58
    go_wp2_with fail
    go_ret
    exact ⟨by rw [HV.out]; rfl, Below.refl _ _⟩
  · have i0 : ¬ (200 : Int) < (n : Int) := by omega
    have HV : Hid (entsE l = firstE l) := if_neg (by omega)
    go_enter Tryz.func58, Tryz.ntmps58
    go_wp2_with fail
    go_loopw [3] (fun i wr => ∃ k : Nat, k ≤ n ∧ i = .int .i64 (k : Int) ∧ Hid (∀ e ∈ l.take k, entE e = 0) ∧ Below w.heap.size w wr) (fun i _ => n - (intOf i).toNat)
    case atStart => exact ⟨0, Nat.zero_le _, rfl, (by intro e he; simp at he), Below.refl _ _⟩
    case round =>
      obtain ⟨k, hk, rfl, HA, hb⟩ := hrel
      by_cases hlt : k < n
      · have i1 : (k : Int) < (n : Int) := by omega
        obtain ⟨b1, off1, rfl, _⟩ := (HR.out.below hb).2.2 (by omega)
        obtain ⟨p0, p1⟩ := EntRows.at_two (HR.out.below hb) k (by omega)
        have HT : Hid (l.take (k + 1) = l.take k ++ [l[k]'(by omega)]) := List.take_succ_eq_append_getElem (by omega)
        have HN : Hid (entE (l[k]'(by omega)) ≠ 0 → firstE l = entE (l[k]'(by omega))) := fun h => Entries.firstE_at (by omega) HA.out h
        have HM : Hid ((l[k]'(by omega)).2.size ≤ maxLen) := HZ.out _ (List.getElem_mem _)
        generalize l[k]'(by omega) = x at p0 p1 HT HN HM
        obtain ⟨t, d⟩ := x
        simp only at p0 p1
        have HB : Hid (Below w.heap.size w wr) := hb
        clear hb
        go_wp2_with fail
        refine (WalkEntryRef.entry_any t d _ HM.out).mono ?_
        rintro e w2 ⟨rfl, b2⟩
        by_cases h0 : entE (t, d) = 0
        · have hx : ((((entE (t, d) : Nat)) : Int) != 0) = false := by rw [h0]; rfl
          have HA2 : Hid (∀ e ∈ l.take (k + 1), entE e = 0) := by
            rw [HT.out]
            intro e he
            rcases List.mem_append.1 he with he | he
            · exact HA.out e he
            · rw [List.mem_singleton.1 he]; exact h0
          generalize entE (t, d) = E at hx
          clear h0
          go_wp2_with fail
          go_roundw
          case rel => exact ⟨k + 1, by omega, by go_num, HA2, bt HB.out b2⟩
          case measure => simp [intOf]; omega
        · have hx : ((((entE (t, d) : Nat)) : Int) != 0) = true := by rw [bne_iff_ne]; omega
          have HF : Hid (entsE l = entE (t, d)) := HV.out.trans (HN.out h0)
          clear h0
          generalize entE (t, d) = E at hx HF
          go_wp2_with fail
          go_ret
          exact ⟨by rw [HF.out]; rfl, bt HB.out b2⟩
      · have i1 : ¬ (k : Int) < (n : Int) := by omega
        have HF : Hid (entsE l = 0) := by
          have h := HA.out
          rw [List.take_of_length_le (by omega)] at h
          exact HV.out.trans (Entries.firstE_zero.2 h)
        go_wp2_with fail
        go_ret
        exact ⟨by rw [HF.out]; rfl, hb⟩

end Go.Proofs.YticadkggaanbjaaGreatDoor.WalkEntriesRef

/-
  What the document's own answers (package witref1) return on many entries: EntryLeafs, Unpack.
-/
namespace Go.Proofs.YticadkggaanbjaaGreatDoor.WalkUnpackRef
open Go.RowKit
open Lists (Row ints bt)
open Keeps (Kept owns_kept owns_row owns_base)
open Wides (Wide)
open Entries (Entry entE take1 takes made dec unpack entsE firstE leafsOf)
open EntRows (cells cells_append)
open Nums (str)
open WalkEntryRef (aggE sizeE)

theorem info3 : (Tryz.prog.info? 3).map (fun i => (i.zero, i.size, i.bytes)) = some (some (.int .i64 0), 1, 8) := by kernel_rfl
theorem infoE : (Tryz.prog.info? 38).map (fun i => (i.zero, i.size, i.bytes)) = some (some (.agg #[.int .i64 0, .string ⟨#[]⟩]), 2, 24) := by kernel_rfl

set_option maxHeartbeats 1000000 in
theorem leafs_any (l : List Entry) (a : Option Addr) (n cap : Nat) (w : World) (hr : Wide 2 w a n cap (cells l)) (h : entsE l = 0) :
    Calls Tryz.prog 41 #[.slice a n cap] w fun e w' => ∃ v, e = .returned v ∧ w'.ownsRow w.heap.size 3 1 v (leafsOf l).length (ints (leafsOf l)) ∧ Below w.heap.size w w' := by
  have hln := EntRows.len_of hr
  obtain ⟨hn, hv⟩ := Entries.ents_ok h
  obtain ⟨i0, hi, hz0, hz1, hz2⟩ := info_parts info3
  have HR : Hid (Wide 2 w a n cap (cells l)) := hr
  have HV : Hid (∀ e ∈ l, entE e = 0) := hv
  clear hr h hv
  have a23 := aggE
  have z23 := sizeE
  go_enter Tryz.func41, Tryz.ntmps41
  go_wp2_with fail
  go_loopw [3, 4] (fun v i wr => ∃ k : Nat, k ≤ n ∧ i = .int .i64 (k : Int) ∧ wr.ownsRow w.heap.size 3 1 v k (ints (leafsOf (l.take k))) ∧ Below w.heap.size w wr) (fun _ i _ => n - (intOf i).toNat)
  case atStart => exact ⟨0, Nat.zero_le _, rfl, World.ownsRow_nil _ _ _ _, Below.refl _ _⟩
  case round =>
    obtain ⟨k, hk, rfl, hown, hb⟩ := hrel
    have HO : Hid (wr.ownsRow w.heap.size 3 1 u3 k (ints (leafsOf (l.take k)))) := hown
    by_cases hlt : k < n
    · have i1 : (k : Int) < (n : Int) := by omega
      obtain ⟨b1, off1, rfl, _⟩ := (HR.out.below hb).2.2 (by omega)
      obtain ⟨p0, p1⟩ := EntRows.at_two (HR.out.below hb) k (by omega)
      have HT : Hid (l.take (k + 1) = l.take k ++ [l[k]'(by omega)]) := List.take_succ_eq_append_getElem (by omega)
      have HE : Hid (entE (l[k]'(by omega)) = 0) := HV.out _ (List.getElem_mem _)
      generalize l[k]'(by omega) = x at p0 p1 HT HE
      obtain ⟨t, d⟩ := x
      simp only at p0 p1
      have HB : Hid (Below w.heap.size w wr) := hb
      clear hb hown
      go_wp2_with fail
      refine (WalkEntryRef.bytes_any t d _ HE.out).mono ?_
      rintro e w2 ⟨rfl, b2⟩
      have hsz : (str (Entries.bytes (t, d))).size ≤ 140737488351232 := by
        rw [Nums.str_size, Entries.bytes_length]
        have := (Entries.ent_ok HE.out).2.2
        simp only at this ⊢
        omega
      have HX : Hid (leafsOf (l.take (k + 1)) = leafsOf (l.take k) ++ [Sums.sum (0 :: (str (Entries.bytes (t, d))).data.toList)]) := by
        show _ = _
        rw [HT.out]
        simp [leafsOf, Nums.str_data]
      generalize str (Entries.bytes (t, d)) = q at hsz HX
      go_wp2_with fail
      refine (WalkRef.leaf_any q _ hsz).mono ?_
      rintro e w3 ⟨rfl, b3⟩
      have HO3 : Hid (w3.ownsRow w.heap.size 3 1 u3 k (ints (leafsOf (l.take k)))) := owns_kept HO.out (Kept.of_below (fun _ => False) (bt b2 b3)) fun _ _ q => q
      have HB3 : Hid (Below w.heap.size w w3) := bt HB.out (bt b2 b3)
      generalize Sums.sum (0 :: q.data.toList) = X at HX
      clear b2 b3 HO HB hsz
      go_wp2_with (at_builtin; go_must (refine wpList_append_own _ rfl (.tmp 18) (.tmp 20) 45 rfl w.heap.size 3 i0 (.int .i64 0) 1 8 Tryz.underlying45 hi hz0 hz1 hz2 rfl (by decide) _ _ _ rfl (HO3.out.alloc _) ⟨_, 0, none⟩ 1 1 [.int .i64 X] rfl rfl (cell_one_new _ _ _) (fun u hu => by rw [List.mem_singleton.1 hu]; rfl) (by unfold maxLen; omega) (by omega) (by have := HB3.out.size; simp; omega) ?_); intro v1 wn o1 g1 z1; clear z1)
      have HBN : Hid (Below w.heap.size w wn) := (HB3.out.alloc HB3.out.size _).grown g1 (by have := HB3.out.size; simp; omega) (fun k hk => (HO3.out.lt k hk).1)
      have HON : Hid (wn.ownsRow w.heap.size 3 1 v1 (k + 1) (ints (leafsOf (l.take (k + 1))))) := by
        rw [HX.out, show ints (leafsOf (l.take k) ++ [X]) = ints (leafsOf (l.take k)) ++ [.int .i64 X] by simp [ints]]
        exact o1
      clear g1 o1 HO3 HB3
      go_roundw
      case rel => exact ⟨k + 1, by omega, by go_num, HON.out, HBN.out⟩
      case measure => simp [intOf]; omega
    · have i1 : ¬ (k : Int) < (n : Int) := by omega
      obtain rfl : k = n := by omega
      have HF : Hid (wr.ownsRow w.heap.size 3 1 u3 (leafsOf l).length (ints (leafsOf l))) := by
        have h := HO.out
        rw [List.take_of_length_le (by omega)] at h
        rw [show (leafsOf l).length = k by simp [leafsOf, hln]]
        exact h
      go_wp2_with fail
      go_ret
      exact ⟨_, rfl, HF.out, hb⟩

theorem cell_two_new (w : World) (x y : Value) (t : TypeId) : ∀ j u, [x, y][j]? = some u → (w.alloc (.cells #[x, y] t)).cell? ((⟨w.heap.size, 0, none⟩ : Addr).add j) = some u := by
  intro j u hj
  match j, hj with
  | 0, hj => simp at hj; subst hj; simp [Addr.add]
  | 1, hj => simp at hj; subst hj; simp [Addr.add]
theorem cut_one (n : UInt8) (r : List UInt8) (m : Nat) (h : m = r.length + 1) : (str (n :: r)).extract 1 m = str r := by
  subst h
  apply ByteArray.ext
  apply Array.toList_inj.1
  simp [str]


end Go.Proofs.YticadkggaanbjaaGreatDoor.WalkUnpackRef

