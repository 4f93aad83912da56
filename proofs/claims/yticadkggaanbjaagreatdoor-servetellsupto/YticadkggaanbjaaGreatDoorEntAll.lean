/-
  What the program's entry.Check, Encode and Decode return, for every argument; and what of them the rest of the package is made of (bytesOf, timeOf, takeFirst, and the library's strings.Clone).
-/
import Derived.Test.YticadkggaanbjaaGreatDoorListRows
import Derived.Test.YticadkggaanbjaaGreatDoorErrs
import Derived.Test.YticadkggaanbjaaGreatDoorMixRun
import Derived.StillTail
import Derived.BigRegion
import Derived.Deep.RegionWith
import Derived.Deep.DeepMust
import Derived.Deep.CutBlock
import Derived.Deep.MidRow
import Derived.Laws.ResultCell
import Derived.Laws.MakeOwn
import Derived.Lib.UnsafeStr
import Derived.Lib.BufferWrite
import Derived.Laws.BitsLemmas
import Derived.Laws.OwnMore
import Derived.Lib.AppendStr
namespace Go.Proofs.YticadkggaanbjaaGreatDoor.WalkEntOne
open Go.RowKit
open Lists (Row ints bt)
open Errs (errv errv0 errv_pos)
open Entries (Entry entE take1 takes made dec encV decE decV)
open EntRows (cells cells_append)
open Nums (str)

theorem aggE (w : World) : (isAgg 38).run Tryz.prog w = .ok true w := by kernel_rfl
theorem sizeE (w : World) : (sizeOf 38).run Tryz.prog w = .ok 2 w := by kernel_rfl

theorem check_any (t : Int) (d : ByteArray) (w : World) (hd : d.size ≤ maxLen) :
    Calls Tryz.prog 132 #[.agg #[.int .i64 t, .string d]] w fun e w' => e = .returned (errv (entE (t, d))) ∧ Below w.heap.size w w' := by
  have b0 : Below w.heap.size w (w.alloc (.cells #[.int .i64 t, .string d] 38)) := (Below.refl _ _).alloc (Nat.le_refl _) _
  have hm : (d.size : Int) ≤ 9223372036854775807 := by unfold maxLen at hd; omega
  clear hd
  by_cases h0 : t < 0
  · have HV : Hid (entE (t, d) = 1) := if_pos (.inl h0)
    go_enter Tryz.func132, Tryz.ntmps132
    go_wp2_with fail
    go_ret
    exact ⟨by rw [HV.out]; rfl, b0⟩
  · by_cases h1 : 1000000 < t
    · have HV : Hid (entE (t, d) = 1) := if_pos (.inr h1)
      go_enter Tryz.func132, Tryz.ntmps132
      go_wp2_with fail
      go_ret
      exact ⟨by rw [HV.out]; rfl, b0⟩
    · by_cases h2 : 200 < d.size
      · have HV : Hid (entE (t, d) = 4) := by show _ = _; unfold entE; rw [if_neg (by simp only; omega), if_pos h2]
        have i2 : (200 : Int) < (d.size : Int) := by omega
        clear h2
        go_enter Tryz.func132, Tryz.ntmps132
        go_wp2_with fail
        go_ret
        exact ⟨by rw [HV.out]; rfl, b0⟩
      · have HV : Hid (entE (t, d) = 0) := by show _ = _; unfold entE; rw [if_neg (by simp only; omega), if_neg h2]
        have i2 : ¬ (200 : Int) < (d.size : Int) := by omega
        clear h2
        go_enter Tryz.func132, Tryz.ntmps132
        go_wp2_with fail
        go_ret
        exact ⟨by rw [HV.out]; rfl, b0⟩

/-- the first four bytes -/
def head4 (t : Int) (n : Nat) : List UInt8 := [UInt8.ofNat (t.toNat / 65536), UInt8.ofNat (t.toNat / 256), UInt8.ofNat t.toNat, UInt8.ofNat n]
theorem bytes_eq (t : Int) (d : ByteArray) : Entries.bytes (t, d) = head4 t d.size ++ d.data.toList := rfl
theorem cells_head (t : Int) (n : Nat) (h0 : 0 ≤ t) (h1 : t ≤ 1000000) (h2 : n ≤ 200) : WalkMix.cells (head4 t n) = [.int .u8 (t / 65536), .int .u8 (t / 256 % 256), .int .u8 (t % 256), .int .u8 (n : Int)] := by
  simp only [WalkMix.cells, head4, List.map_cons, List.map_nil, UInt8.toNat_ofNat', List.cons.injEq, Value.int.injEq, true_and, and_true]
  omega
theorem str_append (a b : List UInt8) (d : ByteArray) (h : d.data.toList = b) : str a ++ d = str (a ++ b) := by
  apply ByteArray.ext
  apply Array.toList_inj.1
  simp [str, h]

set_option maxHeartbeats 1000000 in
theorem bytesOf_any (t : Int) (d : ByteArray) (w : World) (h : entE (t, d) = 0) :
    Calls Tryz.prog 87 #[.agg #[.int .i64 t, .string d]] w fun e w' => e = .returned (.string (str (Entries.bytes (t, d)))) ∧ Below w.heap.size w w' := by
  obtain ⟨h0, h1, h2⟩ := Entries.ent_ok h
  simp only at h0 h1 h2
  have i2 : (d.size : Int) ≤ 200 := by omega
  have i3 : (0 : Int) ≤ (d.size : Int) := by omega
  clear h
  go_enter Tryz.func87, Tryz.ntmps87
  go_upto_region 2 with fail
  have b0 : Below w.heap.size w ((w.alloc (.cells #[.int .i64 t, .string d] 38)).alloc (.cells #[.int .u8 (t / 65536), .int .u8 (t / 256 % 256), .int .u8 (t % 256), .int .u8 (d.size : Int)] 5)) := ((Below.refl _ _).alloc (Nat.le_refl _) _).alloc (by simp) _
  have o0 : ((w.alloc (.cells #[.int .i64 t, .string d] 38)).alloc (.cells #[.int .u8 (t / 65536), .int .u8 (t / 256 % 256), .int .u8 (t % 256), .int .u8 (d.size : Int)] 5)).ownsRow w.heap.size 5 1 (.slice (some ⟨w.heap.size + 1, 0, none⟩) 4 4) 4 (WalkMix.cells (head4 t d.size)) := by
    rw [cells_head t d.size h0 h1 h2]
    refine ⟨rfl, .inr ⟨w.heap.size + 1, 4, #[.int .u8 (t / 65536), .int .u8 (t / 256 % 256), .int .u8 (t % 256), .int .u8 (d.size : Int)], rfl, by omega, ?_, Nat.le_refl _, by decide, rfl, rfl⟩⟩
    have := heap_alloc_new (w.alloc (.cells #[.int .i64 t, .string d] 38)) (.cells #[.int .u8 (t / 65536), .int .u8 (t / 256 % 256), .int .u8 (t % 256), .int .u8 (d.size : Int)] 5)
    simpa using this
  have k1 : ((w.alloc (.cells #[.int .i64 t, .string d] 38)).alloc (.cells #[.int .u8 (t / 65536), .int .u8 (t / 256 % 256), .int .u8 (t % 256), .int .u8 (d.size : Int)] 5)).cell? ⟨w.heap.size, 1, none⟩ = some (.string d) := by rw [World.cell?_alloc_past _ _ _ (by simp)]; simp
  generalize (w.alloc (.cells #[.int .i64 t, .string d] 38)).alloc (.cells #[.int .u8 (t / 65536), .int .u8 (t / 256 % 256), .int .u8 (t % 256), .int .u8 (d.size : Int)] 5) = w1 at b0 o0 k1 ⊢
  have kc : (convert 154 9 (.slice (some ⟨w.heap.size + 1, 0, none⟩) 4 4)).run Tryz.prog w1 = .ok (.string (str (head4 t d.size))) w1 := by
    obtain ⟨g, cap, hv, kc⟩ := WalkMix.ownsRow_cells (l := head4 t d.size) 4 o0 rfl (by omega)
    obtain ⟨rfl, rfl⟩ : w.heap.size + 1 = g ∧ 4 = cap := by simpa using hv
    exact kc
  have HS : Hid ((str (head4 t d.size)).size = 4) := by show _ = _; rw [Nums.str_size]; rfl
  have HA : Hid (str (head4 t d.size) ++ d = str (Entries.bytes (t, d))) := str_append _ _ d rfl
  generalize str (head4 t d.size) = q at kc HA HS
  have hq : ¬ 9223372036854775807 < q.size + d.size := by rw [HS.out]; omega
  clear o0
  go_wp2_with fail
  go_ret
  exact ⟨by rw [HA.out]; rfl, b0⟩


set_option maxHeartbeats 4000000 in
set_option maxRecDepth 100000 in
theorem lite_any (s : ByteArray) (w : World) (hlim : s.size ≤ 281474976710656) :
    Calls Tryz.prog 202 #[.string s] w fun e w' => e = .returned (.string s) ∧ Below w.heap.size w w' := by
  by_cases h0 : s.size = 0
  · have hs : s = ⟨#[]⟩ := ByteArray.ext (Array.eq_empty_of_size_eq_zero h0)
    subst hs
    clear h0 hlim
    go_enter Tryz.func202, Tryz.ntmps202
    go_wp2_with fail
    go_ret
    exact ⟨rfl, Below.refl _ _⟩
  · obtain ⟨i0, hi, hz0, hz1, hz2⟩ := info_parts WalkMix.info5
    have hinfo : (Tryz.prog.info? 5).map (·.size) = some 1 := by rw [hi]; simp [hz1]
    have hco : Tryz.prog.cellsOf 5 = 1 := by simp [Program.cellsOf, hi, hz1]
    obtain ⟨M, hM⟩ : ∃ M, M = madeCells (Value.int .u8 0).cells (((s.size : Nat) : Int).toNat * i0.size) := ⟨_, rfl⟩
    have hMs : M.size = s.size := by rw [hM, size_madeCells, hz1]; simp
    have hmk : ∀ W : World, (Instr.makeSlice 154 (.int .i64 (s.size : Int)) (.int .i64 (s.size : Int))).run Tryz.prog W = .ok (.slice (some ⟨W.heap.size, 0, none⟩) s.size s.size) (W.alloc (.cells M 5)) := fun W => by
      have h := run_make (P := Tryz.prog) W 154 5 i0 (.int .u8 0) Tryz.underlying154 hi hz0 .i64 .i64 (s.size : Int) (s.size : Int) (by omega) (by omega) (by rw [hz2]; omega) (by omega)
      rw [← hM] at h
      simpa using h
    clear hM
    have hcp := Lib.run_copy_row_string (P := Tryz.prog) (w.alloc (.cells M 5)) 154 9 3 5 w.heap.size 0 s.size s.size s M 5 Tryz.underlying154 hinfo (heap_alloc_new w _) (Nat.le_refl _) (by omega)
    obtain ⟨Y, hY⟩ : ∃ Y, Y = (M.toList.take 0 ++ Lib.byteCells s.data.toList ++ M.toList.drop (0 + s.size)).toArray := ⟨_, rfl⟩
    rw [← hY] at hcp
    have hYl : Y.toList = Lib.byteCells s.data.toList := by
      rw [hY, List.toList_toArray, List.take_zero, List.nil_append, List.drop_of_length_le (by rw [Array.length_toList]; omega), List.append_nil]
    have hYs : Y.size = s.size := by rw [← Array.length_toList, hYl, Lib.byteCells_length, ← Lib.size_eq]
    have hgY : ((w.alloc (.cells M 5)).setRow w.heap.size Y).heap[w.heap.size]? = some (.cells Y 5 (0, 0)) := setRow_heap _ _ M _ 5 (0, 0) (heap_alloc_new w _)
    have hne : s.data.toList ≠ [] := fun e => h0 (by rw [Lib.size_eq, e]; rfl)
    have hUS := Lib.run_unsafeString_row (P := Tryz.prog) ((w.alloc (.cells M 5)).setRow w.heap.size Y) 206 3 9 5 Tryz.underlying206 hco w.heap.size Y.size (by unfold World.shape?; rw [hgY]) s.data.toList hne (by rw [← Lib.size_eq]; omega) (by rw [← Lib.size_eq]; omega)
      (fun j x hx => Lib.cells_of_row hgY Y.size j _ (by rw [List.take_of_length_le (by rw [Array.length_toList]; exact Nat.le_refl _), hYl]; simp [Lib.byteCells, hx]))
    rw [← Lib.size_eq] at hUS
    clear hY
    go_enter Tryz.func202, Tryz.ntmps202
    go_wp2
    go_ret
    have hb1 : Below w.heap.size w (w.alloc (.cells M 5)) := (Below.refl _ w).alloc (Nat.le_refl _) _
    have hb2 : Below w.heap.size (w.alloc (.cells M 5)) ((w.alloc (.cells M 5)).setRow w.heap.size Y) := ⟨rfl, rfl, rfl, by simp, fun k hk => setRow_other _ _ _ _ (by omega)⟩
    exact ⟨rfl, Lib.below_freeze (hb1.trans hb2) (p := ⟨w.heap.size, 0, none⟩) (Nat.le_refl _) _⟩
theorem clone_any (s : ByteArray) (w : World) (hlim : s.size ≤ 281474976710656) :
    Calls Tryz.prog 197 #[.string s] w fun e w' => e = .returned (.string s) ∧ Below w.heap.size w w' := by
  go_enter Tryz.func197, Tryz.ntmps197
  go_wp2_with fail
  refine (lite_any s _ hlim).mono ?_
  rintro e w1 ⟨rfl, b1⟩
  clear hlim
  go_wp2_with fail
  go_ret
  exact ⟨rfl, b1⟩


end Go.Proofs.YticadkggaanbjaaGreatDoor.WalkEntOne

/-
  What the program's entry.takeFirst, Encode and Decode return, for every argument.
-/
namespace Go.Proofs.YticadkggaanbjaaGreatDoor.WalkEntTake
open Go.RowKit
open Lists (Row ints bt)
open Errs (errv errv0 errv_pos)
open Entries (Entry entE take1 takes made dec encV decE decV)
open Nums (str)
open WalkEntOne (aggE sizeE)




end Go.Proofs.YticadkggaanbjaaGreatDoor.WalkEntTake

/-
  What the program's package entry returns, for every argument: Check, Encode, Decode, Pack, Unpack, Leafs.
-/
namespace Go.Proofs.YticadkggaanbjaaGreatDoor.WalkEnt
open Go.RowKit
open Lists (Row ints bt)
open Keeps (Kept owns_kept owns_row owns_base)
open Wides (Wide)
open Errs (errv errv0 errv_pos)
open Entries (Entry entE take1 takes made dec encV decE decV entsE firstE packV leafsV leafsOf unpack unpackE unpackV)
open EntRows (cells cells_append)
open Nums (str)
open WalkEntOne (aggE sizeE)

theorem check_any (t : Int) (d : ByteArray) (w : World) (hd : d.size ≤ maxLen) :
    Calls Tryz.prog 132 #[.agg #[.int .i64 t, .string d]] w fun e w' => e = .returned (errv (entE (t, d))) ∧ Below w.heap.size w w' := WalkEntOne.check_any t d w hd

set_option maxHeartbeats 1000000 in
theorem checkAll_any (l : List Entry) (a : Option Addr) (n cap : Nat) (w : World) (hr : Wide 2 w a n cap (cells l)) (hz : ∀ e ∈ l, e.2.size ≤ maxLen) :
    Calls Tryz.prog 85 #[.slice a n cap] w fun e w' => e = .returned (errv (entsE l)) ∧ Below w.heap.size w w' := by
  have hln := EntRows.len_of hr
  have HR : Hid (Wide 2 w a n cap (cells l)) := hr
  have HZ : Hid (∀ e ∈ l, e.2.size ≤ maxLen) := hz
  clear hr hz
  have a23 := aggE
  have z23 := sizeE
  by_cases hn : 200 < n
  · have i0 : (200 : Int) < (n : Int) := by omega
    have HV : Hid (entsE l = 4) := if_pos (by omega)
    go_enter Tryz.func85, Tryz.ntmps85
    go_wp2_with fail
    go_ret
    exact ⟨by rw [HV.out]; rfl, Below.refl _ _⟩
  · have i0 : ¬ (200 : Int) < (n : Int) := by omega
    have HV : Hid (entsE l = firstE l) := if_neg (by omega)
    go_enter Tryz.func85, Tryz.ntmps85
    go_wp2_with fail
    go_loopw [12] (fun i wr => ∃ k : Nat, k ≤ n ∧ i = .int .i64 (k : Int) ∧ Hid (∀ e ∈ l.take k, entE e = 0) ∧ Below w.heap.size w wr) (fun i _ => n - (intOf i).toNat)
    case atStart => exact ⟨0, Nat.zero_le _, rfl, (by intro e he; simp at he), Below.refl _ _⟩
    case round =>
      obtain ⟨k, hk, rfl, HA, hb⟩ := hrel
      by_cases hlt : k < n
      · have i1 : (k : Int) < (n : Int) := by omega
        obtain ⟨b1, off1, rfl, _⟩ := (HR.out.below hb).2.2 (by omega)
        obtain ⟨p0, p1⟩ := EntRows.at_two (HR.out.below hb) k (by omega)
        have HT : Hid (l.take (k + 1) = l.take k ++ [l[k]'(by omega)]) := List.take_succ_eq_append_getElem (by omega)
        have HN : Hid (entE (l[k]'(by omega)) ≠ 0 → firstE l = entE (l[k]'(by omega))) := fun h => Entries.firstE_at (by omega) HA.out h
        have HM : Hid ((l[k]'(by omega)).2.size ≤ maxLen) := HZ.out _ (List.getElem_mem _)
        generalize l[k]'(by omega) = x at p0 p1 HT HN HM
        obtain ⟨t, d⟩ := x
        simp only at p0 p1
        have HB : Hid (Below w.heap.size w wr) := hb
        clear hb
        go_wp2_with fail
        refine (WalkEntOne.check_any t d _ HM.out).mono ?_
        rintro e w2 ⟨rfl, b2⟩
        have HB2 : Hid (Below w.heap.size w w2) := bt (HB.out.alloc HB.out.size _) b2
        by_cases h0 : entE (t, d) = 0
        · have HA2 : Hid (∀ e ∈ l.take (k + 1), entE e = 0) := by
            rw [HT.out]
            intro e he
            rcases List.mem_append.1 he with he | he
            · exact HA.out e he
            · rw [List.mem_singleton.1 he]; exact h0
          rw [h0, errv0]
          clear h0 b2
          go_wp2_with fail
          go_roundw
          case rel => exact ⟨k + 1, by omega, by go_num, HA2, HB2.out⟩
          case measure => simp [intOf]; omega
        · have HF : Hid (errv (entsE l) = .iface 99 (.int .i64 (entE (t, d) : Nat))) := by
            rw [HV.out.trans (HN.out h0)]
            exact errv_pos _ h0
          rw [errv_pos _ h0]
          clear h0 b2
          generalize ((entE (t, d) : Nat) : Int) = E at HF
          go_wp2_with fail
          go_ret
          exact ⟨by rw [HF.out]; rfl, HB2.out⟩
      · have i1 : ¬ (k : Int) < (n : Int) := by omega
        have HF : Hid (entsE l = 0) := by
          have h := HA.out
          rw [List.take_of_length_le (by omega)] at h
          exact HV.out.trans (Entries.firstE_zero.2 h)
        go_wp2_with fail
        go_ret
        exact ⟨by rw [HF.out]; rfl, hb⟩


theorem infoI : (Tryz.prog.info? 3).map (fun i => (i.zero, i.size, i.bytes)) = some (some (.int .i64 0), 1, 8) := by kernel_rfl
/-- the leafs that are made, and room for the rest -/
def made' (l : List Entry) (n k : Nat) : List Int := leafsOf (l.take k) ++ List.replicate (n - k) 0
theorem made_zero (l : List Entry) (n : Nat) : made' l n 0 = List.replicate n 0 := by simp [made', leafsOf]
theorem made_full (l : List Entry) (n : Nat) (h : l.length = n) : made' l n n = leafsOf l := by
  unfold made'
  rw [List.take_of_length_le (by omega), Nat.sub_self]
  simp
theorem made_at (l : List Entry) (n k : Nat) (h : l.length = n) (hk : k < n) : (ints (made' l n k))[k]? = some (.int .i64 0) := by
  have hl : (leafsOf (l.take k)).length = k := by simp [leafsOf]; omega
  unfold made' ints
  rw [List.map_append, List.getElem?_append_right (by rw [List.length_map]; omega), List.length_map, hl, Nat.sub_self, List.getElem?_map, List.getElem?_replicate, if_pos (by omega)]
  rfl
theorem made_next (l : List Entry) (n k : Nat) (h : l.length = n) (hk : k < n) (X : Int) (hX : leafsOf (l.take (k + 1)) = leafsOf (l.take k) ++ [X]) : (ints (made' l n k)).set k (.int .i64 X) = ints (made' l n (k + 1)) := by
  have hl : (leafsOf (l.take k)).length = k := by simp [leafsOf]; omega
  have e : n - k = (n - (k + 1)) + 1 := by omega
  unfold made' ints
  rw [hX, List.map_append, List.set_append_right _ _ (by rw [List.length_map]; omega), List.length_map, hl, Nat.sub_self, e, List.replicate_succ]
  simp

set_option maxHeartbeats 1000000 in
theorem leafs_any (l : List Entry) (a : Option Addr) (n cap : Nat) (w : World) (hr : Wide 2 w a n cap (cells l)) (hz : ∀ e ∈ l, e.2.size ≤ maxLen) :
    Calls Tryz.prog 26 #[.slice a n cap] w fun e w' => ∃ v, e = .returned (.tuple #[v, errv (entsE l)]) ∧ w'.ownsRow w.heap.size 3 1 v (leafsV l).length (ints (leafsV l)) ∧ Below w.heap.size w w' := by
  have hln := EntRows.len_of hr
  have HR : Hid (Wide 2 w a n cap (cells l)) := hr
  have HC : Hid (Calls Tryz.prog 85 #[.slice a n cap] w fun e w' => e = .returned (errv (entsE l)) ∧ Below w.heap.size w w') := checkAll_any l a n cap w hr hz
  obtain ⟨i0, hi, hz0, hz1, hz2⟩ := info_parts infoI
  clear hr hz
  have a23 := aggE
  have z23 := sizeE
  go_enter Tryz.func26, Tryz.ntmps26
  go_wp2_with fail
  refine HC.out.mono ?_
  rintro e w1 ⟨rfl, b1⟩
  by_cases h0 : entsE l = 0
  · obtain ⟨hn, hv⟩ := Entries.ents_ok h0
    have HV : Hid (∀ e ∈ l, entE e = 0) := hv
    have HE : Hid (entsE l = 0) := h0
    have HP : Hid (leafsV l = leafsOf l) := if_pos h0
    rw [h0, errv0]
    obtain ⟨w2, hmk, o2, g2⟩ := run_make_full (P := Tryz.prog) w1 w.heap.size 45 3 i0 (.int .i64 0) 1 Tryz.underlying45 hi hz0 hz1 .i64 .i64 n (by rw [hz2]; omega) (by unfold maxLen; omega) b1.size
    have o0 : w2.ownsRow w.heap.size 3 1 (.slice (some ⟨w1.heap.size, 0, none⟩) n n) n (ints (made' l n 0)) := by
      have e : ints (made' l n 0) = (madeCells (Value.int .i64 0).cells (n * 1)).toList := by
        rw [made_zero, Nat.mul_one]
        show _ = (madeCells #[.int .i64 0] n).toList
        rw [toList_madeCells_one]
        simp [ints]
      rw [e]
      exact o2
    have b2 : Below w.heap.size w w2 := b1.grown g2 b1.size (fun k hk => by cases hk)
    have hg : w.heap.size ≤ w1.heap.size := b1.size
    clear h0 hv HC o2 g2 b1
    generalize w1.heap.size = g at hmk o0 hg
    go_wp2_with fail
    go_loopw [18] (fun i wr => ∃ k : Nat, k ≤ n ∧ i = .int .i64 (k : Int) ∧ wr.ownsRow w.heap.size 3 1 (.slice (some ⟨g, 0, none⟩) n n) n (ints (made' l n k)) ∧ Below w.heap.size w wr) (fun i _ => n - (intOf i).toNat)
    case atStart => exact ⟨0, Nat.zero_le _, rfl, o0, b2⟩
    case round =>
      obtain ⟨k, hk, rfl, hown, hb⟩ := hrel
      have HO : Hid (wr.ownsRow w.heap.size 3 1 (.slice (some ⟨g, 0, none⟩) n n) n (ints (made' l n k))) := hown
      have HB : Hid (Below w.heap.size w wr) := hb
      by_cases hlt : k < n
      · have j1 : (k : Int) < (n : Int) := by omega
        obtain ⟨b1, off1, rfl, _⟩ := (HR.out.below hb).2.2 (by omega)
        obtain ⟨p0, p1⟩ := EntRows.at_two (HR.out.below hb) k (by omega)
        have HT : Hid (l.take (k + 1) = l.take k ++ [l[k]'(by omega)]) := List.take_succ_eq_append_getElem (by omega)
        have HM : Hid (entE (l[k]'(by omega)) = 0) := HV.out _ (List.getElem_mem _)
        generalize l[k]'(by omega) = x at p0 p1 HT HM
        obtain ⟨t, d⟩ := x
        simp only at p0 p1
        clear hb hown o0 b2 hmk
        go_wp2_with fail
        refine (WalkEntOne.bytesOf_any t d _ HM.out).mono ?_
        rintro e w3 ⟨rfl, b3⟩
        have hsz : (str (Entries.bytes (t, d))).size ≤ maxLen := by
          rw [Nums.str_size, Entries.bytes_length]
          have := (Entries.ent_ok HM.out).2.2
          simp only at this ⊢
          unfold maxLen
          omega
        have HX : Hid (leafsOf (l.take (k + 1)) = leafsOf (l.take k) ++ [Sums.sum (0 :: (str (Entries.bytes (t, d))).data.toList)]) := by
          show _ = _
          rw [HT.out]
          simp [leafsOf, Nums.str_data]
        have HS : Hid ((str (Entries.bytes (t, d))).size ≤ maxLen) := hsz
        generalize str (Entries.bytes (t, d)) = q at HS HX
        clear hsz
        go_wp2_with fail
        refine (WalkSum.leaf_any q _ HS.out).mono ?_
        rintro e w4 ⟨rfl, rfl⟩
        have HB3 : Hid (Below w.heap.size w w4) := bt (HB.out.alloc HB.out.size _) b3
        have HO3 : Hid (w4.ownsRow w.heap.size 3 1 (.slice (some ⟨g, 0, none⟩) n n) n (ints (made' l n k))) := owns_kept (HO.out.alloc _) (Kept.of_below (fun _ => False) b3) fun _ _ q => q
        generalize Sums.sum (0 :: q.data.toList) = X at HX
        have c3 : w4.cell? ⟨g, k, none⟩ = some (.int .i64 0) := (HO3.out.cellAt k (by omega)).trans (made_at l n k hln hlt)
        have f3 : w4.frozen? ⟨g, k, none⟩ = false := HO3.out.frozenAt k
        clear b3 HO HB HT
        go_wp2_with fail
        have HBN : Hid (Below w.heap.size w (w4.setCell ⟨g, k, none⟩ (.int .i64 X))) := HB3.out.setCell hg _
        have HON : Hid ((w4.setCell ⟨g, k, none⟩ (.int .i64 X)).ownsRow w.heap.size 3 1 (.slice (some ⟨g, 0, none⟩) n n) n (ints (made' l n (k + 1)))) := by
          rw [← made_next l n k hln hlt X HX.out]
          exact (HO3.out.stored k _).1
        go_roundw
        case rel => exact ⟨k + 1, by omega, by go_num, HON.out, HBN.out⟩
        case measure => simp [intOf]; omega
      · have j1 : ¬ (k : Int) < (n : Int) := by omega
        obtain rfl : k = n := by omega
        have HK : Hid (wr.ownsRow w.heap.size 3 1 (.slice (some ⟨g, 0, none⟩) k k) (leafsV l).length (ints (leafsV l))) := by
          rw [HP.out, show (leafsOf l).length = k by simp [leafsOf, hln], ← made_full l k hln]
          exact hown
        clear hown HO o0 hmk
        go_wp2_with fail
        go_ret2
        exact ⟨_, by rw [HE.out]; rfl, HK.out, hb⟩
  · have HV : Hid (leafsV l = [] ∧ errv (entsE l) = .iface 99 (.int .i64 (entsE l : Nat))) := ⟨if_neg h0, errv_pos _ h0⟩
    rw [errv_pos _ h0]
    clear h0 HC
    generalize ((entsE l : Nat) : Int) = E at HV
    go_wp2_with fail
    go_ret2
    exact ⟨_, by rw [HV.out.2]; rfl, by rw [HV.out.1]; exact World.ownsRow_nil _ _ _ _, b1⟩


end Go.Proofs.YticadkggaanbjaaGreatDoor.WalkEnt

