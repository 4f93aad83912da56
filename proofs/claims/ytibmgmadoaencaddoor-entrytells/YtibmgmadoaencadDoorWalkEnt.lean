/-
  What the program's package entry returns, for every argument: Check, Encode, Decode, Pack, Unpack, Leafs.
-/
import Derived.Test.YtibmgmadoaencadDoorWalkEntTake
import Derived.Laws.OwnMore
import Derived.Lib.AppendStr
namespace Go.Proofs.YtibmgmadoaencadDoor.WalkEnt
open Go.RowKit
open Lists (Row ints bt)
open Keeps (Kept owns_kept owns_row owns_base)
open Wides (Wide)
open Errs (errv errv0 errv_pos)
open Entries (Entry entE take1 takes made dec encV decE decV entsE firstE packV leafsV leafsOf unpack unpackE unpackV)
open EntRows (cells cells_append)
open Nums (str)
open WalkEntOne (aggE sizeE)

theorem check_any (t : Int) (d : ByteArray) (w : World) (hd : d.size ≤ maxLen) :
    Calls Tryd.prog 10 #[.agg #[.int .i64 t, .string d]] w fun e w' => e = .returned (errv (entE (t, d))) ∧ Below w.heap.size w w' := WalkEntOne.check_any t d w hd
theorem encode_any (t : Int) (d : ByteArray) (w : World) (hd : d.size ≤ maxLen) :
    Calls Tryd.prog 12 #[.agg #[.int .i64 t, .string d]] w fun e w' => e = .returned (.tuple #[.string (str (encV (t, d))), errv (entE (t, d))]) ∧ Below w.heap.size w w' := WalkEntTake.encode_any t d w hd
theorem decode_any (s : ByteArray) (w : World) (hs : s.size ≤ 140737488351232) :
    Calls Tryd.prog 14 #[.string s] w fun e w' => e = .returned (.tuple #[.agg #[.int .i64 (decV s.data.toList).1, .string (decV s.data.toList).2], errv (decE s.data.toList)]) ∧ Below w.heap.size w w' := WalkEntTake.decode_any s w hs

set_option maxHeartbeats 1000000 in
theorem checkAll_any (l : List Entry) (a : Option Addr) (n cap : Nat) (w : World) (hr : Wide 2 w a n cap (cells l)) (hz : ∀ e ∈ l, e.2.size ≤ maxLen) :
    Calls Tryd.prog 41 #[.slice a n cap] w fun e w' => e = .returned (errv (entsE l)) ∧ Below w.heap.size w w' := by
  have hln := EntRows.len_of hr
  have HR : Hid (Wide 2 w a n cap (cells l)) := hr
  have HZ : Hid (∀ e ∈ l, e.2.size ≤ maxLen) := hz
  clear hr hz
  have a23 := aggE
  have z23 := sizeE
  by_cases hn : 200 < n
  · have i0 : (200 : Int) < (n : Int) := by omega
    have HV : Hid (entsE l = 4) := if_pos (by omega)
    go_enter Tryd.func41, Tryd.ntmps41
    go_wp2_with fail
    go_ret
    exact ⟨by rw [HV.out]; rfl, Below.refl _ _⟩
  · have i0 : ¬ (200 : Int) < (n : Int) := by omega
    have HV : Hid (entsE l = firstE l) := if_neg (by omega)
    go_enter Tryd.func41, Tryd.ntmps41
    go_wp2_with fail
    go_loopw [12] (fun i wr => ∃ k : Nat, k ≤ n ∧ i = .int .i64 (k : Int) ∧ Hid (∀ e ∈ l.take k, entE e = 0) ∧ Below w.heap.size w wr) (fun i _ => n - (intOf i).toNat)
    case atStart => exact ⟨0, Nat.zero_le _, rfl, (by intro e he; simp at he), Below.refl _ _⟩
    case round =>
      obtain ⟨k, hk, rfl, HA, hb⟩ := hrel
      by_cases hlt : k < n
      · have i1 : (k : Int) < (n : Int) := by omega
        obtain ⟨b1, off1, rfl, _⟩ := (HR.out.below hb).2.2 (by omega)
        obtain ⟨p0, p1⟩ := EntRows.at_two (HR.out.below hb) k (by omega)
        have HT : Hid (l.take (k + 1) = l.take k ++ [l[k]'(by omega)]) := List.take_succ_eq_append_getElem (by omega)
        have HN : Hid (entE (l[k]'(by omega)) ≠ 0 → firstE l = entE (l[k]'(by omega))) := fun h => Entries.firstE_at (by omega) HA.out h
        have HM : Hid ((l[k]'(by omega)).2.size ≤ maxLen) := HZ.out _ (List.getElem_mem _)
        generalize l[k]'(by omega) = x at p0 p1 HT HN HM
        obtain ⟨t, d⟩ := x
        simp only at p0 p1
        have HB : Hid (Below w.heap.size w wr) := hb
        clear hb
        go_wp2_with fail
        refine (WalkEntOne.check_any t d _ HM.out).mono ?_
        rintro e w2 ⟨rfl, b2⟩
        have HB2 : Hid (Below w.heap.size w w2) := bt (HB.out.alloc HB.out.size _) b2
        by_cases h0 : entE (t, d) = 0
        · have HA2 : Hid (∀ e ∈ l.take (k + 1), entE e = 0) := by
            rw [HT.out]
            intro e he
            rcases List.mem_append.1 he with he | he
            · exact HA.out e he
            · rw [List.mem_singleton.1 he]; exact h0
          rw [h0, errv0]
          clear h0 b2
          go_wp2_with fail
          go_roundw
          case rel => exact ⟨k + 1, by omega, by go_num, HA2, HB2.out⟩
          case measure => simp [intOf]; omega
        · have HF : Hid (errv (entsE l) = .iface 76 (.int .i64 (entE (t, d) : Nat))) := by
            rw [HV.out.trans (HN.out h0)]
            exact errv_pos _ h0
          rw [errv_pos _ h0]
          clear h0 b2
          generalize ((entE (t, d) : Nat) : Int) = E at HF
          go_wp2_with fail
          go_ret
          exact ⟨by rw [HF.out]; rfl, HB2.out⟩
      · have i1 : ¬ (k : Int) < (n : Int) := by omega
        have HF : Hid (entsE l = 0) := by
          have h := HA.out
          rw [List.take_of_length_le (by omega)] at h
          exact HV.out.trans (Entries.firstE_zero.2 h)
        go_wp2_with fail
        go_ret
        exact ⟨by rw [HF.out]; rfl, hb⟩

/-- so far -/
def sofar (l : List Entry) (k : Nat) : List UInt8 := UInt8.ofNat l.length :: Entries.all (l.take k)
theorem sofar_next (l : List Entry) (k : Nat) (hk : k < l.length) : sofar l (k + 1) = sofar l k ++ Entries.bytes l[k] := by
  unfold sofar
  rw [List.take_succ_eq_append_getElem hk, Entries.all_snoc]
  rfl
theorem sofar_len {l : List Entry} (h : entsE l = 0) (k : Nat) : (sofar l k).length ≤ 41000 := by
  obtain ⟨h1, h2⟩ := Entries.ents_ok h
  unfold sofar
  rw [List.length_cons]
  have := Entries.all_length (l.take k) fun e he => h2 e (List.mem_of_mem_take he)
  rw [List.length_take] at this
  omega
theorem sofar_pos (l : List Entry) (k : Nat) : 0 < (sofar l k).length := by unfold sofar; simp
theorem strCells_str (l : List UInt8) : Lib.strCells (str l) = WalkMix.cells l := by
  unfold Lib.strCells WalkMix.cells
  rw [Nums.str_data]

set_option maxHeartbeats 1000000 in
theorem pack_any (l : List Entry) (a : Option Addr) (n cap : Nat) (w : World) (hr : Wide 2 w a n cap (cells l)) (hz : ∀ e ∈ l, e.2.size ≤ maxLen) :
    Calls Tryd.prog 17 #[.slice a n cap] w fun e w' => e = .returned (.tuple #[.string (str (packV l)), errv (entsE l)]) ∧ Below w.heap.size w w' := by
  have hln := EntRows.len_of hr
  have HR : Hid (Wide 2 w a n cap (cells l)) := hr
  have HC : Hid (Calls Tryd.prog 41 #[.slice a n cap] w fun e w' => e = .returned (errv (entsE l)) ∧ Below w.heap.size w w') := checkAll_any l a n cap w hr hz
  obtain ⟨i0, hi, hz0, hz1, hz2⟩ := info_parts WalkMix.info5
  clear hr hz
  have a23 := aggE
  have z23 := sizeE
  go_enter Tryd.func17, Tryd.ntmps17
  go_wp2_with fail
  refine HC.out.mono ?_
  rintro e w1 ⟨rfl, b1⟩
  by_cases h0 : entsE l = 0
  · obtain ⟨hn, hv⟩ := Entries.ents_ok h0
    have HV : Hid (∀ e ∈ l, entE e = 0) := hv
    have HE : Hid (entsE l = 0) := h0
    have HP : Hid (packV l = Entries.pack l) := if_pos h0
    rw [h0, errv0]
    have i1 : (n : Int) ≤ 200 := by omega
    have i2 : (0 : Int) ≤ (n : Int) := by omega
    clear h0 hv HC
    go_upto_region 5 with fail
    have o0 : (w1.alloc (.cells #[.int .u8 (n : Int)] 5)).ownsRow w.heap.size 5 1 (.slice (some ⟨w1.heap.size, 0, none⟩) 1 1) (sofar l 0).length (WalkMix.cells (sofar l 0)) := by
      have e1 : sofar l 0 = [UInt8.ofNat n] := by unfold sofar; rw [hln]; rfl
      have e2 : WalkMix.cells (sofar l 0) = [.int .u8 (n : Int)] := by
        rw [e1]
        simp only [WalkMix.cells, List.map_cons, List.map_nil, UInt8.toNat_ofNat', List.cons.injEq, Value.int.injEq, true_and, and_true]
        omega
      rw [e2, e1]
      exact ⟨rfl, .inr ⟨w1.heap.size, 1, #[.int .u8 (n : Int)], rfl, b1.size, heap_alloc_new w1 _, Nat.le_refl _, by decide, rfl, rfl⟩⟩
    have b2 : Below w.heap.size w (w1.alloc (.cells #[.int .u8 (n : Int)] 5)) := b1.alloc b1.size _
    generalize w1.alloc (.cells #[.int .u8 (n : Int)] 5) = w2 at o0 b2 ⊢
    generalize (.slice (some ⟨w1.heap.size, 0, none⟩) 1 1 : Value) = v0 at o0 ⊢
    clear b1
    go_wp2_with fail
    go_loopw [5, 19] (fun v i wr => ∃ k : Nat, k ≤ n ∧ i = .int .i64 (k : Int) ∧ wr.ownsRow w.heap.size 5 1 v (sofar l k).length (WalkMix.cells (sofar l k)) ∧ Below w.heap.size w wr) (fun _ i _ => n - (intOf i).toNat)
    case atStart => exact ⟨0, Nat.zero_le _, rfl, o0, b2⟩
    case round =>
      obtain ⟨k, hk, rfl, hown, hb⟩ := hrel
      have HO : Hid (wr.ownsRow w.heap.size 5 1 u5 (sofar l k).length (WalkMix.cells (sofar l k))) := hown
      have HB : Hid (Below w.heap.size w wr) := hb
      have hL := sofar_len HE.out k
      by_cases hlt : k < n
      · have j1 : (k : Int) < (n : Int) := by omega
        obtain ⟨b1, off1, rfl, _⟩ := (HR.out.below hb).2.2 (by omega)
        obtain ⟨p0, p1⟩ := EntRows.at_two (HR.out.below hb) k (by omega)
        have HT : Hid (sofar l (k + 1) = sofar l k ++ Entries.bytes (l[k]'(by omega))) := sofar_next l k (by omega)
        have HM : Hid (entE (l[k]'(by omega)) = 0) := HV.out _ (List.getElem_mem _)
        generalize l[k]'(by omega) = x at p0 p1 HT HM
        obtain ⟨t, d⟩ := x
        simp only at p0 p1
        clear hb hown o0 b2
        go_wp2_with fail
        refine (WalkEntOne.bytesOf_any t d _ HM.out).mono ?_
        rintro e w3 ⟨rfl, b3⟩
        have HB3 : Hid (Below w.heap.size w w3) := bt (HB.out.alloc HB.out.size _) b3
        have HO3 : Hid (w3.ownsRow w.heap.size 5 1 u5 (sofar l k).length (WalkMix.cells (sofar l k))) := owns_kept (HO.out.alloc _) (Kept.of_below (fun _ => False) b3) fun _ _ q => q
        have hsz : (str (Entries.bytes (t, d))).size ≤ 204 := by
          rw [Nums.str_size, Entries.bytes_length]
          have := (Entries.ent_ok HM.out).2.2
          simp only at this ⊢
          omega
        have HX : Hid (WalkMix.cells (sofar l (k + 1)) = WalkMix.cells (sofar l k) ++ Lib.strCells (str (Entries.bytes (t, d))) ∧ (sofar l (k + 1)).length = (sofar l k).length + (str (Entries.bytes (t, d))).size) := by
          refine ⟨?_, ?_⟩
          · rw [HT.out, WalkMix.cells_append, strCells_str]
          · rw [HT.out, List.length_append, Nums.str_size]
        generalize str (Entries.bytes (t, d)) = q at hsz HX
        clear b3 HO HB HT
        go_wp2_with (at_builtin; go_must (refine Lib.wpList_append_own_string _ rfl (.tmp 23) (.tmp 25) 46 9 rfl w.heap.size 5 i0 Tryd.underlying46 Tryd.underlying9 hi hz0 hz1 hz2 _ _ _ rfl HO3.out q rfl (by unfold maxLen; omega) (by omega) HB3.out.size ?_); intro v1 wn o1 g1 z1; clear z1)
        have HBN : Hid (Below w.heap.size w wn) := HB3.out.grown g1 HB3.out.size (fun k hk => (HO3.out.lt k hk).1)
        have HON : Hid (wn.ownsRow w.heap.size 5 1 v1 (sofar l (k + 1)).length (WalkMix.cells (sofar l (k + 1)))) := by
          rw [HX.out.1, HX.out.2]
          exact o1
        clear g1 o1 HO3 HB3
        go_roundw
        case rel => exact ⟨k + 1, by omega, by go_num, HON.out, HBN.out⟩
        case measure => simp [intOf]; omega
      · have j1 : ¬ (k : Int) < (n : Int) := by omega
        have HK : Hid (sofar l k = packV l) := by
          show _ = _
          rw [HP.out]
          unfold sofar Entries.pack
          rw [List.take_of_length_le (by omega)]
        obtain ⟨g, cap', rfl, kc⟩ := WalkMix.ownsRow_cells (l := sofar l k) (sofar l k).length hown rfl (sofar_pos l k)
        clear hown HO o0
        generalize (sofar l k).length = L at kc hL
        generalize hS : str (sofar l k) = S at kc
        have HS : Hid (str (packV l) = S) := by rw [← HK.out]; exact hS
        clear hS
        go_wp2_with fail
        go_ret2
        exact ⟨by rw [HS.out, HE.out]; rfl, hb⟩
  · have HV : Hid (str (packV l) = ⟨#[]⟩ ∧ errv (entsE l) = .iface 76 (.int .i64 (entsE l : Nat))) := ⟨by rw [show packV l = [] from if_neg h0]; rfl, errv_pos _ h0⟩
    rw [errv_pos _ h0]
    clear h0 HC
    generalize ((entsE l : Nat) : Int) = E at HV
    go_wp2_with fail
    go_ret2
    exact ⟨by rw [HV.out.1, HV.out.2]; rfl, b1⟩

theorem infoI : (Tryd.prog.info? 3).map (fun i => (i.zero, i.size, i.bytes)) = some (some (.int .i64 0), 1, 8) := by kernel_rfl
/-- the leafs that are made, and room for the rest -/
def made' (l : List Entry) (n k : Nat) : List Int := leafsOf (l.take k) ++ List.replicate (n - k) 0
theorem made_zero (l : List Entry) (n : Nat) : made' l n 0 = List.replicate n 0 := by simp [made', leafsOf]
theorem made_full (l : List Entry) (n : Nat) (h : l.length = n) : made' l n n = leafsOf l := by
  unfold made'
  rw [List.take_of_length_le (by omega), Nat.sub_self]
  simp
theorem made_at (l : List Entry) (n k : Nat) (h : l.length = n) (hk : k < n) : (ints (made' l n k))[k]? = some (.int .i64 0) := by
  have hl : (leafsOf (l.take k)).length = k := by simp [leafsOf]; omega
  unfold made' ints
  rw [List.map_append, List.getElem?_append_right (by rw [List.length_map]; omega), List.length_map, hl, Nat.sub_self, List.getElem?_map, List.getElem?_replicate, if_pos (by omega)]
  rfl
theorem made_next (l : List Entry) (n k : Nat) (h : l.length = n) (hk : k < n) (X : Int) (hX : leafsOf (l.take (k + 1)) = leafsOf (l.take k) ++ [X]) : (ints (made' l n k)).set k (.int .i64 X) = ints (made' l n (k + 1)) := by
  have hl : (leafsOf (l.take k)).length = k := by simp [leafsOf]; omega
  have e : n - k = (n - (k + 1)) + 1 := by omega
  unfold made' ints
  rw [hX, List.map_append, List.set_append_right _ _ (by rw [List.length_map]; omega), List.length_map, hl, Nat.sub_self, e, List.replicate_succ]
  simp

set_option maxHeartbeats 1000000 in
theorem leafs_any (l : List Entry) (a : Option Addr) (n cap : Nat) (w : World) (hr : Wide 2 w a n cap (cells l)) (hz : ∀ e ∈ l, e.2.size ≤ maxLen) :
    Calls Tryd.prog 18 #[.slice a n cap] w fun e w' => ∃ v, e = .returned (.tuple #[v, errv (entsE l)]) ∧ w'.ownsRow w.heap.size 3 1 v (leafsV l).length (ints (leafsV l)) ∧ Below w.heap.size w w' := by
  have hln := EntRows.len_of hr
  have HR : Hid (Wide 2 w a n cap (cells l)) := hr
  have HC : Hid (Calls Tryd.prog 41 #[.slice a n cap] w fun e w' => e = .returned (errv (entsE l)) ∧ Below w.heap.size w w') := checkAll_any l a n cap w hr hz
  obtain ⟨i0, hi, hz0, hz1, hz2⟩ := info_parts infoI
  clear hr hz
  have a23 := aggE
  have z23 := sizeE
  go_enter Tryd.func18, Tryd.ntmps18
  go_wp2_with fail
  refine HC.out.mono ?_
  rintro e w1 ⟨rfl, b1⟩
  by_cases h0 : entsE l = 0
  · obtain ⟨hn, hv⟩ := Entries.ents_ok h0
    have HV : Hid (∀ e ∈ l, entE e = 0) := hv
    have HE : Hid (entsE l = 0) := h0
    have HP : Hid (leafsV l = leafsOf l) := if_pos h0
    rw [h0, errv0]
    obtain ⟨w2, hmk, o2, g2⟩ := run_make_full (P := Tryd.prog) w1 w.heap.size 45 3 i0 (.int .i64 0) 1 Tryd.underlying45 hi hz0 hz1 .i64 .i64 n (by rw [hz2]; omega) (by unfold maxLen; omega) b1.size
    have o0 : w2.ownsRow w.heap.size 3 1 (.slice (some ⟨w1.heap.size, 0, none⟩) n n) n (ints (made' l n 0)) := by
      have e : ints (made' l n 0) = (madeCells (Value.int .i64 0).cells (n * 1)).toList := by
        rw [made_zero, Nat.mul_one]
        show _ = (madeCells #[.int .i64 0] n).toList
        rw [toList_madeCells_one]
        simp [ints]
      rw [e]
      exact o2
    have b2 : Below w.heap.size w w2 := b1.grown g2 b1.size (fun k hk => by cases hk)
    have hg : w.heap.size ≤ w1.heap.size := b1.size
    clear h0 hv HC o2 g2 b1
    generalize w1.heap.size = g at hmk o0 hg
    go_wp2_with fail
    go_loopw [18] (fun i wr => ∃ k : Nat, k ≤ n ∧ i = .int .i64 (k : Int) ∧ wr.ownsRow w.heap.size 3 1 (.slice (some ⟨g, 0, none⟩) n n) n (ints (made' l n k)) ∧ Below w.heap.size w wr) (fun i _ => n - (intOf i).toNat)
    case atStart => exact ⟨0, Nat.zero_le _, rfl, o0, b2⟩
    case round =>
      obtain ⟨k, hk, rfl, hown, hb⟩ := hrel
      have HO : Hid (wr.ownsRow w.heap.size 3 1 (.slice (some ⟨g, 0, none⟩) n n) n (ints (made' l n k))) := hown
      have HB : Hid (Below w.heap.size w wr) := hb
      by_cases hlt : k < n
      · have j1 : (k : Int) < (n : Int) := by omega
        obtain ⟨b1, off1, rfl, _⟩ := (HR.out.below hb).2.2 (by omega)
        obtain ⟨p0, p1⟩ := EntRows.at_two (HR.out.below hb) k (by omega)
        have HT : Hid (l.take (k + 1) = l.take k ++ [l[k]'(by omega)]) := List.take_succ_eq_append_getElem (by omega)
        have HM : Hid (entE (l[k]'(by omega)) = 0) := HV.out _ (List.getElem_mem _)
        generalize l[k]'(by omega) = x at p0 p1 HT HM
        obtain ⟨t, d⟩ := x
        simp only at p0 p1
        clear hb hown o0 b2 hmk
        go_wp2_with fail
        refine (WalkEntOne.bytesOf_any t d _ HM.out).mono ?_
        rintro e w3 ⟨rfl, b3⟩
        have hsz : (str (Entries.bytes (t, d))).size ≤ maxLen := by
          rw [Nums.str_size, Entries.bytes_length]
          have := (Entries.ent_ok HM.out).2.2
          simp only at this ⊢
          unfold maxLen
          omega
        have HX : Hid (leafsOf (l.take (k + 1)) = leafsOf (l.take k) ++ [Sums.sum (0 :: (str (Entries.bytes (t, d))).data.toList)]) := by
          show _ = _
          rw [HT.out]
          simp [leafsOf, Nums.str_data]
        have HS : Hid ((str (Entries.bytes (t, d))).size ≤ maxLen) := hsz
        generalize str (Entries.bytes (t, d)) = q at HS HX
        clear hsz
        go_wp2_with fail
        refine (WalkSum.leaf_any q _ HS.out).mono ?_
        rintro e w4 ⟨rfl, rfl⟩
        have HB3 : Hid (Below w.heap.size w w4) := bt (HB.out.alloc HB.out.size _) b3
        have HO3 : Hid (w4.ownsRow w.heap.size 3 1 (.slice (some ⟨g, 0, none⟩) n n) n (ints (made' l n k))) := owns_kept (HO.out.alloc _) (Kept.of_below (fun _ => False) b3) fun _ _ q => q
        generalize Sums.sum (0 :: q.data.toList) = X at HX
        have c3 : w4.cell? ⟨g, k, none⟩ = some (.int .i64 0) := (HO3.out.cellAt k (by omega)).trans (made_at l n k hln hlt)
        have f3 : w4.frozen? ⟨g, k, none⟩ = false := HO3.out.frozenAt k
        clear b3 HO HB HT
        go_wp2_with fail
        have HBN : Hid (Below w.heap.size w (w4.setCell ⟨g, k, none⟩ (.int .i64 X))) := HB3.out.setCell hg _
        have HON : Hid ((w4.setCell ⟨g, k, none⟩ (.int .i64 X)).ownsRow w.heap.size 3 1 (.slice (some ⟨g, 0, none⟩) n n) n (ints (made' l n (k + 1)))) := by
          rw [← made_next l n k hln hlt X HX.out]
          exact (HO3.out.stored k _).1
        go_roundw
        case rel => exact ⟨k + 1, by omega, by go_num, HON.out, HBN.out⟩
        case measure => simp [intOf]; omega
      · have j1 : ¬ (k : Int) < (n : Int) := by omega
        obtain rfl : k = n := by omega
        have HK : Hid (wr.ownsRow w.heap.size 3 1 (.slice (some ⟨g, 0, none⟩) k k) (leafsV l).length (ints (leafsV l))) := by
          rw [HP.out, show (leafsOf l).length = k by simp [leafsOf, hln], ← made_full l k hln]
          exact hown
        clear hown HO o0 hmk
        go_wp2_with fail
        go_ret2
        exact ⟨_, by rw [HE.out]; rfl, HK.out, hb⟩
  · have HV : Hid (leafsV l = [] ∧ errv (entsE l) = .iface 76 (.int .i64 (entsE l : Nat))) := ⟨if_neg h0, errv_pos _ h0⟩
    rw [errv_pos _ h0]
    clear h0 HC
    generalize ((entsE l : Nat) : Int) = E at HV
    go_wp2_with fail
    go_ret2
    exact ⟨_, by rw [HV.out.2]; rfl, by rw [HV.out.1]; exact World.ownsRow_nil _ _ _ _, b1⟩

theorem infoE : (Tryd.prog.info? 33).map (fun i => (i.zero, i.size, i.bytes)) = some (some (.agg #[.int .i64 0, .string ⟨#[]⟩]), 2, 24) := by kernel_rfl
/-- the entries that are read, and room for the rest -/
def room (m : List Entry) (j : Nat) : List Entry := m ++ List.replicate j ((0 : Int), (⟨#[]⟩ : ByteArray))
theorem cells_replicate : ∀ (n : Nat), cells (List.replicate n ((0 : Int), (⟨#[]⟩ : ByteArray))) = (madeCells #[.int .i64 0, .string ⟨#[]⟩] (n * 2)).toList := by
  intro n
  apply List.ext_getElem?
  intro j
  by_cases hj : j < n * 2
  · have hi : j / 2 < (List.replicate n ((0 : Int), (⟨#[]⟩ : ByteArray))).length := by rw [List.length_replicate]; omega
    obtain ⟨c0, c1⟩ := EntRows.cells_at _ (j / 2) hi
    simp only [List.getElem_replicate] at c0 c1
    have r : (madeCells #[.int .i64 0, .string ⟨#[]⟩] (n * 2)).toList[j]? = some ((#[.int .i64 0, .string ⟨#[]⟩] : Array Value)[j % 2]!) := by simp [madeCells, hj]
    rw [r]
    rcases Nat.mod_two_eq_zero_or_one j with hm | hm
    · rw [show j / 2 * 2 = j by omega] at c0
      rw [c0, hm]
      rfl
    · rw [show j / 2 * 2 + 1 = j by omega] at c1
      rw [c1, hm]
      rfl
  · rw [List.getElem?_eq_none (by rw [EntRows.cells_length, List.length_replicate]; omega), List.getElem?_eq_none (by rw [Array.length_toList, size_madeCells]; omega)]
theorem room_at (m : List Entry) (j : Nat) (h : 0 < j) : (cells (room m j))[m.length * 2]? = some (.int .i64 0) ∧ (cells (room m j))[m.length * 2 + 1]? = some (.string ⟨#[]⟩) := by
  have hi : m.length < (room m j).length := by unfold room; simp; omega
  have e : (room m j)[m.length] = ((0 : Int), (⟨#[]⟩ : ByteArray)) := by simp [room]
  have := EntRows.cells_at (room m j) m.length hi
  rw [e] at this
  exact this
theorem room_next (m : List Entry) (j : Nat) (t : Int) (d : ByteArray) : ((cells (room m (j + 1))).set (m.length * 2) (.int .i64 t)).set (m.length * 2 + 1) (.string d) = cells (room (m ++ [(t, d)]) j) := by
  unfold room
  rw [List.replicate_succ, cells_append, cells_append, cells_append]
  have hl := EntRows.cells_length m
  rw [List.set_append_right _ _ (by omega), hl, Nat.sub_self, List.set_append_right _ _ (by omega), hl, show m.length * 2 + 1 - m.length * 2 = 1 by omega]
  simp [cells]
theorem cut_one (n : UInt8) (r : List UInt8) (m : Nat) (h : m = r.length + 1) : (str (n :: r)).extract 1 m = str r := by
  subst h
  apply ByteArray.ext
  apply Array.toList_inj.1
  simp [str]

set_option maxHeartbeats 4000000 in
set_option maxRecDepth 100000 in
theorem unpack_any (s : ByteArray) (w : World) (hs : s.size ≤ 140737488351232) :
    Calls Tryd.prog 21 #[.string s] w fun e w' => ∃ v, e = .returned (.tuple #[v, errv (unpackE s.data.toList)]) ∧ w'.ownsRow w.heap.size 33 2 v (unpackV s.data.toList).length (cells (unpackV s.data.toList)) ∧ Below w.heap.size w w' := by
  obtain ⟨i0, hi, hz0, hz1, hz2⟩ := info_parts infoE
  have a23 := aggE
  have z23 := sizeE
  have no : ∀ (l : List UInt8) (w' : World), unpack l = none → Below w.heap.size w w' → ∃ v, Ending.returned (.tuple #[.slice none 0 0, .iface 76 (.int .i64 2)]) = .returned (.tuple #[v, errv (unpackE l)]) ∧ w'.ownsRow w.heap.size 33 2 v (unpackV l).length (cells (unpackV l)) ∧ Below w.heap.size w w' := by
    intro l w' h b
    refine ⟨_, by rw [(Entries.unpack_not h).1]; rfl, ?_, b⟩
    rw [(Entries.unpack_not h).2]
    exact World.ownsRow_nil _ _ _ _
  have NO : Hid (∀ (l : List UInt8) (w' : World), unpack l = none → Below w.heap.size w w' → ∃ v, Ending.returned (.tuple #[.slice none 0 0, .iface 76 (.int .i64 2)]) = .returned (.tuple #[v, errv (unpackE l)]) ∧ w'.ownsRow w.heap.size 33 2 v (unpackV l).length (cells (unpackV l)) ∧ Below w.heap.size w w') := no
  clear no
  cases hl : s.data.toList with
  | nil =>
    have he : (s.toList == []) = true := by rw [ByteArray.toList_eq, hl]; rfl
    clear hl
    go_enter Tryd.func21, Tryd.ntmps21
    go_wp2_with fail
    go_ret2
    exact NO.out [] _ rfl (Below.refl _ _)
  | cons n r =>
    have he : (s.toList == []) = false := by rw [ByteArray.toList_eq, hl]; rfl
    have hst : s = str (n :: r) := by rw [← hl]; rfl
    have hsz : s.size = r.length + 1 := by rw [hst, Nums.str_size]; simp
    have y0 : ∀ h, s[0]'h = n := by subst hst; intro h; rfl
    have HX : Hid (s.extract 1 s.size = str r) := by
      show _ = _
      rw [hst]
      exact cut_one n r _ (by rw [Nums.str_size]; simp)
    have ln := n.toNat_lt
    have j0 : (0 : Int) < (s.size : Int) := by omega
    have HC := Entries.unpack_cons n r
    have j1 : (1 : Int) ≤ (s.size : Int) := by omega
    clear hl hst
    by_cases hn : 200 < n.toNat
    · have i1 : (200 : Int) < (n.toNat : Int) := by omega
      have HU : Hid (unpack (n :: r) = none) := by show _ = _; rw [HC, if_pos hn]
      clear HC hn
      go_enter Tryd.func21, Tryd.ntmps21
      go_wp2_with fail
      go_ret2
      exact NO.out _ _ HU.out (Below.refl _ _)
    · have i1 : ¬ (200 : Int) < (n.toNat : Int) := by omega
      rw [if_neg hn] at HC
      have HU : Hid (unpack (n :: r) = Entries.whole (takes n.toNat r)) := HC
      clear HC
      have HSm : Hid (s.size = r.length + 1) := hsz
      obtain ⟨w2, hmk, o2, g2⟩ := run_make_full (P := Tryd.prog) w w.heap.size 34 33 i0 (.agg #[.int .i64 0, .string ⟨#[]⟩]) 2 Tryd.underlying34 hi hz0 hz1 .u8 .u8 n.toNat (by rw [hz2]; omega) (by unfold maxLen; omega) (Nat.le_refl _)
      have o0 : w2.ownsRow w.heap.size 33 2 (.slice (some ⟨w.heap.size, 0, none⟩) n.toNat n.toNat) n.toNat (cells (room [] (n.toNat - 0))) := by
        have e : cells (room [] (n.toNat - 0)) = (madeCells (Value.agg #[.int .i64 0, .string ⟨#[]⟩]).cells (n.toNat * 2)).toList := cells_replicate n.toNat
        rw [e]
        exact o2
      have b2 : Below w.heap.size w w2 := (Below.refl _ _).grown g2 (Nat.le_refl _) (fun k hk => by cases hk)
      clear hsz o2 g2
      go_enter Tryd.func21, Tryd.ntmps21
      go_wp2_with fail
      rw [HX.out]
      go_loopw [5, 23] (fun q i wr => ∃ (k : Nat) (m : List Entry) (t : List UInt8), k ≤ n.toNat ∧ i = .int .i64 (k : Int) ∧ q = .string (str t) ∧ Hid (takes k r = some (m, t)) ∧ wr.ownsRow w.heap.size 33 2 (.slice (some ⟨w.heap.size, 0, none⟩) n.toNat n.toNat) n.toNat (cells (room m (n.toNat - k))) ∧ Below w.heap.size w wr) (fun _ i _ => n.toNat - (intOf i).toNat)
      case atStart => exact ⟨0, [], r, Nat.zero_le _, rfl, rfl, rfl, o0, b2⟩
      case round =>
        obtain ⟨k, m, t, hk, rfl, rfl, HT, hown, hb⟩ := hrel
        have HO : Hid (wr.ownsRow w.heap.size 33 2 (.slice (some ⟨w.heap.size, 0, none⟩) n.toNat n.toNat) n.toNat (cells (room m (n.toNat - k)))) := hown
        have HB : Hid (Below w.heap.size w wr) := hb
        have hml : m.length = k := (Entries.takes_some HT.out).2.1
        clear hown hb o0 b2 hmk
        have htl : t.length ≤ r.length := by
          have h := (Entries.takes_some HT.out).1
          have h2 := congrArg List.length h
          rw [List.length_append] at h2
          omega
        by_cases hlt : k < n.toNat
        · have i2 : (k : Int) < (n.toNat : Int) := by omega
          have HST : Hid ((str t).size ≤ 140737488351232) := by show _ ≤ _; rw [Nums.str_size]; have := HSm.out; omega
          have HCell : Hid ((cells (room m (n.toNat - k)))[k * 2]? = some (.int .i64 0) ∧ (cells (room m (n.toNat - k)))[k * 2 + 1]? = some (.string ⟨#[]⟩)) := by
            have := room_at m (n.toNat - k) (by omega)
            rw [hml] at this
            exact this
          clear htl
          go_wp2_with fail
          cases hT : take1 t with
          | none =>
            refine (WalkEntTake.take_no (str t) _ HST.out hT).mono ?_
            rintro e w2 ⟨t', d', q', rfl, b2⟩
            have HN : Hid (unpack (n :: r) = none) := by
              show _ = _
              have h1 := Entries.takes_end HT.out hT
              have h2 := Entries.takes_none h1 (n.toNat - (k + 1))
              rw [show k + 1 + (n.toNat - (k + 1)) = n.toNat by omega] at h2
              rw [HU.out, h2]
              rfl
            have HB2 : Hid (Below w.heap.size w w2) := bt HB.out b2
            have HO2 : Hid (w2.ownsRow w.heap.size 33 2 (.slice (some ⟨w.heap.size, 0, none⟩) n.toNat n.toNat) n.toNat (cells (room m (n.toNat - k)))) := owns_kept HO.out (Kept.of_below (fun _ => False) b2) fun _ _ q => q
            have c0 : w2.cell? ⟨w.heap.size, k * 2, none⟩ = some (.int .i64 0) := (HO2.out.cellAt _ (by omega)).trans HCell.out.1
            have c1 : w2.cell? ⟨w.heap.size, k * 2 + 1, none⟩ = some (.string ⟨#[]⟩) := (HO2.out.cellAt _ (by omega)).trans HCell.out.2
            have f0 : w2.frozen? ⟨w.heap.size, k * 2, none⟩ = false := HO2.out.frozenAt _
            have f1 : w2.frozen? ⟨w.heap.size, k * 2 + 1, none⟩ = false := HO2.out.frozenAt _
            clear hT b2 HO HB HCell hml
            go_wp2_with fail
            go_ret2
            exact NO.out _ _ HN.out ((HB2.out.setCell (Nat.le_refl _) _).setCell (Nat.le_refl _) _)
          | some y =>
            obtain ⟨⟨tt, d⟩, t2⟩ := y
            refine (WalkEntTake.take_yes (str t) _ HST.out _ _ hT).mono ?_
            rintro e w2 ⟨rfl, b2⟩
            simp only
            have HT2 : Hid (takes (k + 1) r = some (m ++ [(tt, d)], t2)) := Entries.takes_snoc HT.out hT
            have HO2 : Hid (w2.ownsRow w.heap.size 33 2 (.slice (some ⟨w.heap.size, 0, none⟩) n.toNat n.toNat) n.toNat (cells (room m (n.toNat - k)))) := owns_kept HO.out (Kept.of_below (fun _ => False) b2) fun _ _ q => q
            have HB2 : Hid (Below w.heap.size w w2) := bt HB.out b2
            have c0 : w2.cell? ⟨w.heap.size, k * 2, none⟩ = some (.int .i64 0) := (HO2.out.cellAt _ (by omega)).trans HCell.out.1
            have c1 : w2.cell? ⟨w.heap.size, k * 2 + 1, none⟩ = some (.string ⟨#[]⟩) := (HO2.out.cellAt _ (by omega)).trans HCell.out.2
            have f0 : w2.frozen? ⟨w.heap.size, k * 2, none⟩ = false := HO2.out.frozenAt _
            have f1 : w2.frozen? ⟨w.heap.size, k * 2 + 1, none⟩ = false := HO2.out.frozenAt _
            have HNx : Hid (((cells (room m (n.toNat - k))).set (k * 2) (.int .i64 tt)).set (k * 2 + 1) (.string d) = cells (room (m ++ [(tt, d)]) (n.toNat - (k + 1)))) := by
              have := room_next m (n.toNat - (k + 1)) tt d
              rw [hml, show n.toNat - (k + 1) + 1 = n.toNat - k by omega] at this
              exact this
            clear hT b2 HO HB HCell hml
            generalize hq2 : str t2 = q2
            have HQ : Hid (str t2 = q2) := hq2
            clear hq2
            go_wp2_with fail
            have HBN : Hid (Below w.heap.size w ((w2.setCell ⟨w.heap.size, k * 2, none⟩ (.int .i64 tt)).setCell ⟨w.heap.size, k * 2 + 1, none⟩ (.string d))) := (HB2.out.setCell (Nat.le_refl _) _).setCell (Nat.le_refl _) _
            have HON : Hid (((w2.setCell ⟨w.heap.size, k * 2, none⟩ (.int .i64 tt)).setCell ⟨w.heap.size, k * 2 + 1, none⟩ (.string d)).ownsRow w.heap.size 33 2 (.slice (some ⟨w.heap.size, 0, none⟩) n.toNat n.toNat) n.toNat (cells (room (m ++ [(tt, d)]) (n.toNat - (k + 1))))) := by
              rw [← HNx.out]
              exact ((HO2.out.stored _ _).1.stored _ _).1
            go_roundw
            case rel => exact ⟨k + 1, m ++ [(tt, d)], t2, by omega, by go_num, by rw [HQ.out], HT2, HON.out, HBN.out⟩
            case measure => simp [intOf]; omega
        · have i2 : ¬ (k : Int) < (n.toNat : Int) := by omega
          obtain rfl : k = n.toNat := by omega
          by_cases ht : t = []
          · subst ht
            have HN : Hid (unpack (n :: r) = some m) := by
              show _ = _
              rw [HU.out, HT.out]
              rfl
            have hne : ((str []).toList == []) = true := by rw [Nums.str_toList]; rfl
            have HF : Hid (wr.ownsRow w.heap.size 33 2 (.slice (some ⟨w.heap.size, 0, none⟩) n.toNat n.toNat) m.length (cells m)) := by
              have h := HO.out
              rw [Nat.sub_self, show room m 0 = m by simp [room]] at h
              rw [hml]
              exact h
            generalize str [] = q at hne
            clear HO htl hml
            go_wp2_with fail
            go_ret2
            refine ⟨_, by rw [(Entries.unpack_is HN.out).1]; rfl, ?_, HB.out⟩
            rw [(Entries.unpack_is HN.out).2]
            exact HF.out
          · have HN : Hid (unpack (n :: r) = none) := by
              show _ = _
              rw [HU.out, HT.out]
              cases t with
              | nil => exact absurd rfl ht
              | cons x y => rfl
            have hne : ((str t).toList == []) = false := by rw [Nums.str_toList, beq_eq_false_iff_ne]; exact ht
            generalize str t = q at hne
            clear HO htl hml
            go_wp2_with fail
            go_ret2
            exact NO.out _ _ HN.out HB.out

end Go.Proofs.YtibmgmadoaencadDoor.WalkEnt
