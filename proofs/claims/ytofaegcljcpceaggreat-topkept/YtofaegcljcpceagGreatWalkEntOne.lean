/-
  What the program's entry.Check, Encode and Decode return, for every argument; and what of them the rest of the package is made of (bytesOf, timeOf, takeFirst, and the library's strings.Clone).
-/
import Derived.Test.YtofaegcljcpceagGreatEntRows
import Derived.Test.YtofaegcljcpceagGreatErrs
import Derived.Test.YtofaegcljcpceagGreatWalkMix
import Derived.StillTail
import Derived.BigRegion
import Derived.Deep.RegionWith
import Derived.Deep.DeepMust
import Derived.Deep.CutBlock
import Derived.Deep.MidRow
import Derived.Laws.ResultCell
import Derived.Laws.MakeOwn
import Derived.Lib.UnsafeStr
import Derived.Lib.BufferWrite
import Derived.Laws.BitsLemmas
namespace Go.Proofs.YtofaegcljcpceagGreat.WalkEntOne
open Go.RowKit
open Lists (Row ints bt)
open Errs (errv errv0 errv_pos)
open Entries (Entry entE take1 takes made dec encV decE decV)
open EntRows (cells cells_append)
open Nums (str)

theorem aggE (w : World) : (isAgg 35).run Tryz.prog w = .ok true w := by kernel_rfl
theorem sizeE (w : World) : (sizeOf 35).run Tryz.prog w = .ok 2 w := by kernel_rfl

theorem check_any (t : Int) (d : ByteArray) (w : World) (hd : d.size ≤ maxLen) :
    Calls Tryz.prog 24 #[.agg #[.int .i64 t, .string d]] w fun e w' => e = .returned (errv (entE (t, d))) ∧ Below w.heap.size w w' := by
  have b0 : Below w.heap.size w (w.alloc (.cells #[.int .i64 t, .string d] 35)) := (Below.refl _ _).alloc (Nat.le_refl _) _
  have hm : (d.size : Int) ≤ 9223372036854775807 := by unfold maxLen at hd; omega
  clear hd
  by_cases h0 : t < 0
  · have HV : Hid (entE (t, d) = 1) := if_pos (.inl h0)
    go_enter Tryz.func24, Tryz.ntmps24
    go_wp2_with fail
    go_ret
    exact ⟨by rw [HV.out]; rfl, b0⟩
  · by_cases h1 : 1000000 < t
    · have HV : Hid (entE (t, d) = 1) := if_pos (.inr h1)
      go_enter Tryz.func24, Tryz.ntmps24
      go_wp2_with fail
      go_ret
      exact ⟨by rw [HV.out]; rfl, b0⟩
    · by_cases h2 : 200 < d.size
      · have HV : Hid (entE (t, d) = 4) := by show _ = _; unfold entE; rw [if_neg (by simp only; omega), if_pos h2]
        have i2 : (200 : Int) < (d.size : Int) := by omega
        clear h2
        go_enter Tryz.func24, Tryz.ntmps24
        go_wp2_with fail
        go_ret
        exact ⟨by rw [HV.out]; rfl, b0⟩
      · have HV : Hid (entE (t, d) = 0) := by show _ = _; unfold entE; rw [if_neg (by simp only; omega), if_neg h2]
        have i2 : ¬ (200 : Int) < (d.size : Int) := by omega
        clear h2
        go_enter Tryz.func24, Tryz.ntmps24
        go_wp2_with fail
        go_ret
        exact ⟨by rw [HV.out]; rfl, b0⟩

/-- the first four bytes -/
def head4 (t : Int) (n : Nat) : List UInt8 := [UInt8.ofNat (t.toNat / 65536), UInt8.ofNat (t.toNat / 256), UInt8.ofNat t.toNat, UInt8.ofNat n]
theorem bytes_eq (t : Int) (d : ByteArray) : Entries.bytes (t, d) = head4 t d.size ++ d.data.toList := rfl
theorem cells_head (t : Int) (n : Nat) (h0 : 0 ≤ t) (h1 : t ≤ 1000000) (h2 : n ≤ 200) : WalkMix.cells (head4 t n) = [.int .u8 (t / 65536), .int .u8 (t / 256 % 256), .int .u8 (t % 256), .int .u8 (n : Int)] := by
  simp only [WalkMix.cells, head4, List.map_cons, List.map_nil, UInt8.toNat_ofNat', List.cons.injEq, Value.int.injEq, true_and, and_true]
  omega
theorem str_append (a b : List UInt8) (d : ByteArray) (h : d.data.toList = b) : str a ++ d = str (a ++ b) := by
  apply ByteArray.ext
  apply Array.toList_inj.1
  simp [str, h]

set_option maxHeartbeats 1000000 in
theorem bytesOf_any (t : Int) (d : ByteArray) (w : World) (h : entE (t, d) = 0) :
    Calls Tryz.prog 22 #[.agg #[.int .i64 t, .string d]] w fun e w' => e = .returned (.string (str (Entries.bytes (t, d)))) ∧ Below w.heap.size w w' := by
  obtain ⟨h0, h1, h2⟩ := Entries.ent_ok h
  simp only at h0 h1 h2
  have i2 : (d.size : Int) ≤ 200 := by omega
  have i3 : (0 : Int) ≤ (d.size : Int) := by omega
  clear h
  go_enter Tryz.func22, Tryz.ntmps22
  go_upto_region 2 with fail
  have b0 : Below w.heap.size w ((w.alloc (.cells #[.int .i64 t, .string d] 35)).alloc (.cells #[.int .u8 (t / 65536), .int .u8 (t / 256 % 256), .int .u8 (t % 256), .int .u8 (d.size : Int)] 5)) := ((Below.refl _ _).alloc (Nat.le_refl _) _).alloc (by simp) _
  have o0 : ((w.alloc (.cells #[.int .i64 t, .string d] 35)).alloc (.cells #[.int .u8 (t / 65536), .int .u8 (t / 256 % 256), .int .u8 (t % 256), .int .u8 (d.size : Int)] 5)).ownsRow w.heap.size 5 1 (.slice (some ⟨w.heap.size + 1, 0, none⟩) 4 4) 4 (WalkMix.cells (head4 t d.size)) := by
    rw [cells_head t d.size h0 h1 h2]
    refine ⟨rfl, .inr ⟨w.heap.size + 1, 4, #[.int .u8 (t / 65536), .int .u8 (t / 256 % 256), .int .u8 (t % 256), .int .u8 (d.size : Int)], rfl, by omega, ?_, Nat.le_refl _, by decide, rfl, rfl⟩⟩
    have := heap_alloc_new (w.alloc (.cells #[.int .i64 t, .string d] 35)) (.cells #[.int .u8 (t / 65536), .int .u8 (t / 256 % 256), .int .u8 (t % 256), .int .u8 (d.size : Int)] 5)
    simpa using this
  have k1 : ((w.alloc (.cells #[.int .i64 t, .string d] 35)).alloc (.cells #[.int .u8 (t / 65536), .int .u8 (t / 256 % 256), .int .u8 (t % 256), .int .u8 (d.size : Int)] 5)).cell? ⟨w.heap.size, 1, none⟩ = some (.string d) := by rw [World.cell?_alloc_past _ _ _ (by simp)]; simp
  generalize (w.alloc (.cells #[.int .i64 t, .string d] 35)).alloc (.cells #[.int .u8 (t / 65536), .int .u8 (t / 256 % 256), .int .u8 (t % 256), .int .u8 (d.size : Int)] 5) = w1 at b0 o0 k1 ⊢
  have kc : (convert 36 9 (.slice (some ⟨w.heap.size + 1, 0, none⟩) 4 4)).run Tryz.prog w1 = .ok (.string (str (head4 t d.size))) w1 := by
    obtain ⟨g, cap, hv, kc⟩ := WalkMix.ownsRow_cells (l := head4 t d.size) 4 o0 rfl (by omega)
    obtain ⟨rfl, rfl⟩ : w.heap.size + 1 = g ∧ 4 = cap := by simpa using hv
    exact kc
  have HS : Hid ((str (head4 t d.size)).size = 4) := by show _ = _; rw [Nums.str_size]; rfl
  have HA : Hid (str (head4 t d.size) ++ d = str (Entries.bytes (t, d))) := str_append _ _ d rfl
  generalize str (head4 t d.size) = q at kc HA HS
  have hq : ¬ 9223372036854775807 < q.size + d.size := by rw [HS.out]; omega
  clear o0
  go_wp2_with fail
  go_ret
  exact ⟨by rw [HA.out]; rfl, b0⟩

theorem wraps64 (n : Int) (h0 : 0 ≤ n) (h1 : n < 2 ^ 62) : IntKind.i64.wrap n = n := by rw [IntKind.wrap_i64]; omega
theorem or_three (a b c : UInt8) : bits .or .i64 (bits .or .i64 ((a.toNat : Int) * 65536) ((b.toNat : Int) * 256)) (c.toNat : Int) = ((a.toNat * 65536 + b.toNat * 256 + c.toNat : Nat) : Int) := by
  have la := a.toNat_lt
  have lb := b.toNat_lt
  have lc := c.toNat_lt
  rw [bits_join .i64 62 (by decide) wraps64 16 ((a.toNat : Int) * 65536) ((b.toNat : Int) * 256) (by omega) (by omega) (by omega) (by omega) (by omega) (by omega)]
  rw [bits_join .i64 62 (by decide) wraps64 8 _ _ (by omega) (by omega) (by omega) (by omega) (by omega) (by omega)]
  omega

set_option maxHeartbeats 1000000 in
theorem timeOf_any (a b c : UInt8) (s : ByteArray) (w : World) (hs : 3 < s.size) (z0 : ∀ h, s[0]'h = a) (z1 : ∀ h, s[1]'h = b) (z2 : ∀ h, s[2]'h = c) :
    Calls Tryz.prog 74 #[.string s] w fun e w' => e = .returned (.int .i64 ((a.toNat * 65536 + b.toNat * 256 + c.toNat : Nat) : Int)) ∧ Below w.heap.size w w' := by
  have la := a.toNat_lt
  have lb := b.toNat_lt
  have lc := c.toNat_lt
  have j0 : (0 : Int) < (s.size : Int) := by omega
  have j1 : (1 : Int) < (s.size : Int) := by omega
  have j2 : (2 : Int) < (s.size : Int) := by omega
  have m0 : 0 < s.size := by omega
  have m1 : 1 < s.size := by omega
  have m2 : 2 < s.size := by omega
  clear hs
  go_enter Tryz.func74, Tryz.ntmps74
  go_upto_region 1 with fail
  go_region
  go_wp2_with fail
  go_ret
  exact ⟨by rw [or_three]; rfl, (Below.refl _ _).drew⟩

set_option maxHeartbeats 4000000 in
set_option maxRecDepth 100000 in
theorem lite_any (s : ByteArray) (w : World) (hlim : s.size ≤ 281474976710656) :
    Calls Tryz.prog 93 #[.string s] w fun e w' => e = .returned (.string s) ∧ Below w.heap.size w w' := by
  by_cases h0 : s.size = 0
  · have hs : s = ⟨#[]⟩ := ByteArray.ext (Array.eq_empty_of_size_eq_zero h0)
    subst hs
    clear h0 hlim
    go_enter Tryz.func93, Tryz.ntmps93
    go_wp2_with fail
    go_ret
    exact ⟨rfl, Below.refl _ _⟩
  · obtain ⟨i0, hi, hz0, hz1, hz2⟩ := info_parts WalkMix.info5
    have hinfo : (Tryz.prog.info? 5).map (·.size) = some 1 := by rw [hi]; simp [hz1]
    have hco : Tryz.prog.cellsOf 5 = 1 := by simp [Program.cellsOf, hi, hz1]
    obtain ⟨M, hM⟩ : ∃ M, M = madeCells (Value.int .u8 0).cells (((s.size : Nat) : Int).toNat * i0.size) := ⟨_, rfl⟩
    have hMs : M.size = s.size := by rw [hM, size_madeCells, hz1]; simp
    have hmk : ∀ W : World, (Instr.makeSlice 36 (.int .i64 (s.size : Int)) (.int .i64 (s.size : Int))).run Tryz.prog W = .ok (.slice (some ⟨W.heap.size, 0, none⟩) s.size s.size) (W.alloc (.cells M 5)) := fun W => by
      have h := run_make (P := Tryz.prog) W 36 5 i0 (.int .u8 0) Tryz.underlying36 hi hz0 .i64 .i64 (s.size : Int) (s.size : Int) (by omega) (by omega) (by rw [hz2]; omega) (by omega)
      rw [← hM] at h
      simpa using h
    clear hM
    have hcp := Lib.run_copy_row_string (P := Tryz.prog) (w.alloc (.cells M 5)) 36 9 3 5 w.heap.size 0 s.size s.size s M 5 Tryz.underlying36 hinfo (heap_alloc_new w _) (Nat.le_refl _) (by omega)
    obtain ⟨Y, hY⟩ : ∃ Y, Y = (M.toList.take 0 ++ Lib.byteCells s.data.toList ++ M.toList.drop (0 + s.size)).toArray := ⟨_, rfl⟩
    rw [← hY] at hcp
    have hYl : Y.toList = Lib.byteCells s.data.toList := by
      rw [hY, List.toList_toArray, List.take_zero, List.nil_append, List.drop_of_length_le (by rw [Array.length_toList]; omega), List.append_nil]
    have hYs : Y.size = s.size := by rw [← Array.length_toList, hYl, Lib.byteCells_length, ← Lib.size_eq]
    have hgY : ((w.alloc (.cells M 5)).setRow w.heap.size Y).heap[w.heap.size]? = some (.cells Y 5 (0, 0)) := setRow_heap _ _ M _ 5 (0, 0) (heap_alloc_new w _)
    have hne : s.data.toList ≠ [] := fun e => h0 (by rw [Lib.size_eq, e]; rfl)
    have hUS := Lib.run_unsafeString_row (P := Tryz.prog) ((w.alloc (.cells M 5)).setRow w.heap.size Y) 130 3 9 5 Tryz.underlying130 hco w.heap.size Y.size (by unfold World.shape?; rw [hgY]) s.data.toList hne (by rw [← Lib.size_eq]; omega) (by rw [← Lib.size_eq]; omega)
      (fun j x hx => Lib.cells_of_row hgY Y.size j _ (by rw [List.take_of_length_le (by rw [Array.length_toList]; exact Nat.le_refl _), hYl]; simp [Lib.byteCells, hx]))
    rw [← Lib.size_eq] at hUS
    clear hY
    go_enter Tryz.func93, Tryz.ntmps93
    go_wp2
    go_ret
    have hb1 : Below w.heap.size w (w.alloc (.cells M 5)) := (Below.refl _ w).alloc (Nat.le_refl _) _
    have hb2 : Below w.heap.size (w.alloc (.cells M 5)) ((w.alloc (.cells M 5)).setRow w.heap.size Y) := ⟨rfl, rfl, rfl, by simp, fun k hk => setRow_other _ _ _ _ (by omega)⟩
    exact ⟨rfl, Lib.below_freeze (hb1.trans hb2) (p := ⟨w.heap.size, 0, none⟩) (Nat.le_refl _) _⟩
theorem clone_any (s : ByteArray) (w : World) (hlim : s.size ≤ 281474976710656) :
    Calls Tryz.prog 75 #[.string s] w fun e w' => e = .returned (.string s) ∧ Below w.heap.size w w' := by
  go_enter Tryz.func75, Tryz.ntmps75
  go_wp2_with fail
  refine (lite_any s _ hlim).mono ?_
  rintro e w1 ⟨rfl, b1⟩
  clear hlim
  go_wp2_with fail
  go_ret
  exact ⟨rfl, b1⟩

theorem cut_mid (a b c n : UInt8) (r : List UInt8) (k : Nat) : (str (a :: b :: c :: n :: r)).extract 4 (4 + k) = str (r.take k) := by
  apply ByteArray.ext
  apply Array.toList_inj.1
  simp [str]
theorem cut_end (a b c n : UInt8) (r : List UInt8) (k : Nat) : (str (a :: b :: c :: n :: r)).extract (4 + k) (r.length + 4) = str (r.drop k) := by
  apply ByteArray.ext
  apply Array.toList_inj.1
  have e : r.length + 4 - (4 + k) = r.length - k := by omega
  have d : (a :: b :: c :: n :: r).drop (4 + k) = r.drop k := by rw [Nat.add_comm]; rfl
  have q : (r.drop k).take (r.length - k) = r.drop k := List.take_of_length_le (by rw [List.length_drop]; omega)
  simp [str, e, d, q]
theorem ret_take {w : World} {g : Nat} {x y : Value} (tmps : Array Value) (hp : tmps.getD 2 undef = .pointer (some ⟨g, 0, none⟩)) (h0 : w.cell? ⟨g, 0, none⟩ = some x) (h1 : w.cell? ⟨g, 1, none⟩ = some y) :
    (results Tryz.f35 tmps).run Tryz.prog w = .ok (.tuple #[.agg #[x, y], tmps.getD 3 undef, tmps.getD 4 undef]) w := by
  have h : Tryz.f35.results = #[.cell 2 35, .tmp 3, .tmp 4] := rfl
  have hp' : tmps[2]?.getD undef = .pointer (some ⟨g, 0, none⟩) := by rw [← Array.getD_eq_getD_getElem?]; exact hp
  have hl := run_loadVar_mid (P := Tryz.prog) w g 0 35 [x, y] _ (fun j v hv => by match j, hv with | 0, hv => simp at hv; subst hv; simpa using h0 | 1, hv => simp at hv; subst hv; simpa using h1) Tryz.underlying35 rfl (by kernel_rfl)
  simp only [results, h]
  simp [hp', asAddr, hl, Result.andThen]
theorem zero_row (w : World) : (w.alloc (.cells #[.int .i64 0, .string ⟨#[]⟩] 35)).rowIs w.heap.size 35 2 (fun j => if j = 0 then .int .i64 0 else .string ⟨#[]⟩) := World.rowIs_alloc _ _ _ _ (fun j hj => by match j, hj with | 0, _ | 1, _ => rfl | j + 2, h => simp at h; omega)
theorem err_nil (k : Nat) : (match errv k with | .nilIface => true | _ => false) = decide (k = 0) := by
  by_cases h : k = 0
  · subst h; rfl
  · rw [errv_pos _ h, decide_eq_false h]

set_option maxHeartbeats 4000000 in
set_option maxRecDepth 100000 in
theorem take_in (a b c n : UInt8) (r : List UInt8) (s : ByteArray) (w : World) (hs : s = str (a :: b :: c :: n :: r)) (hn : n.toNat ≤ r.length) (hr : r.length ≤ 140737488351232) :
    Calls Tryz.prog 35 #[.string s] w fun e w' => e = .returned (.tuple #[.agg #[.int .i64 (made a b c (r.take n.toNat)).1, .string (made a b c (r.take n.toNat)).2], .string (str (r.drop n.toNat)), .bool (decide (entE (made a b c (r.take n.toNat)) = 0))]) ∧ Below w.heap.size w w' := by
  have hsz : s.size = r.length + 4 := by rw [hs, Nums.str_size]; simp
  have z3 : ∀ h, s[3]'h = n := by subst hs; intro h; rfl
  have ln := n.toNat_lt
  have HS : Hid (s = str (a :: b :: c :: n :: r)) := hs
  have i0 : ¬ (s.size : Int) < 4 := by omega
  have i1 : ¬ (s.size : Int) < 4 + (n.toNat : Int) := by omega
  have i2 : (3 : Int) < (s.size : Int) := by omega
  have i3 : 3 < s.size := by omega
  have HT : Hid (∀ w1, Calls Tryz.prog 74 #[.string s] w1 fun e w' => e = .returned (.int .i64 (made a b c (r.take n.toNat)).1) ∧ Below w1.heap.size w1 w') := fun w1 => timeOf_any a b c s w1 i3 (by subst hs; intro h; rfl) (by subst hs; intro h; rfl) (by subst hs; intro h; rfl)
  have HC1 : Hid (s.extract 4 (4 + n.toNat) = (made a b c (r.take n.toNat)).2) := by
    rw [HS.out]
    exact cut_mid a b c n r _
  have HC2 : Hid (s.extract (4 + n.toNat) (r.length + 4) = str (r.drop n.toNat)) := by
    rw [HS.out]
    exact cut_end a b c n r _
  have HSz : Hid ((made a b c (r.take n.toNat)).2.size ≤ maxLen) := by
    show (str (r.take n.toNat)).size ≤ maxLen
    rw [Nums.str_size, List.length_take]
    unfold maxLen
    omega
  have HK : Hid (∀ w1, Calls Tryz.prog 75 #[.string (s.extract 4 (4 + n.toNat))] w1 fun e w' => e = .returned (.string (made a b c (r.take n.toNat)).2) ∧ Below w1.heap.size w1 w') := fun w1 => by
    rw [HC1.out]
    exact clone_any _ w1 (by show (str (r.take n.toNat)).size ≤ _; rw [Nums.str_size, List.length_take]; omega)
  clear hs HC1
  have HZ : Hid ((w.alloc (.cells #[.int .i64 0, .string ⟨#[]⟩] 35)).rowIs w.heap.size 35 2 (fun j => if j = 0 then .int .i64 0 else .string ⟨#[]⟩)) := zero_row w
  have HB0 : Hid (Below w.heap.size w (w.alloc (.cells #[.int .i64 0, .string ⟨#[]⟩] 35))) := (Below.refl _ _).alloc (Nat.le_refl _) _
  generalize hE : made a b c (r.take n.toNat) = E at HSz HT HK
  have HE : Hid (made a b c (r.take n.toNat) = E) := hE
  clear hE
  obtain ⟨T, D⟩ := E
  simp only at HSz HT HK
  have a23 := aggE
  have z23 := sizeE
  go_enter Tryz.func35, Tryz.ntmps35
  go_upto_region 6 with fail
  generalize w.alloc (.cells #[.int .i64 0, .string ⟨#[]⟩] 35) = w1 at HZ HB0 ⊢
  have i4 : (4 : Int) + (n.toNat : Int) ≤ (s.size : Int) := by omega
  have i5 : (4 : Int) ≤ (4 : Int) + (n.toNat : Int) := by omega
  have HR : Hid (∀ w2, Below w1.heap.size w1 w2 → w2.rowIs w.heap.size 35 2 (fun j => if j = 0 then .int .i64 0 else .string ⟨#[]⟩)) := fun w2 b => HZ.out.of_block (b.block _ HZ.out.lt)
  clear i0 i1 i2 i3 z3 HS
  go_region_with (first | (go_at_call 74; refine (HT.out _).mono ?_; rintro e w4 ⟨rfl, b4⟩) | (go_at_call 75; refine (HK.out _).mono ?_; rintro e w5 ⟨rfl, b5⟩; have HB5 : Hid (Below w1.heap.size w1 w5) := (Below.refl _ w1).drew.trans (bt b4 b5); have HQ5 : Hid (w5.rowIs w.heap.size 35 2 (fun j => if j = 0 then .int .i64 0 else .string ⟨#[]⟩)) := HR.out w5 HB5.out; have r0 := HQ5.out.cell (i := 0) (by omega); have r1 := HQ5.out.cell (i := 1) (by omega); have f0 := HQ5.out.frozen 0; have f1 := HQ5.out.frozen 1))
  have HQ6 : Hid (((w5.setCell ⟨w.heap.size, 0, none⟩ (.int .i64 T)).setCell ⟨w.heap.size, 1, none⟩ (.string D)).rowIs w.heap.size 35 2 (fun j => if j = 1 then .string D else if j = 0 then .int .i64 T else if j = 0 then .int .i64 0 else .string ⟨#[]⟩)) := (HQ5.out.set 0 (.int .i64 T)).set 1 (.string D)
  have HB6 : Hid (Below w.heap.size w ((w5.setCell ⟨w.heap.size, 0, none⟩ (.int .i64 T)).setCell ⟨w.heap.size, 1, none⟩ (.string D))) := ((bt HB0.out HB5.out).setCell (Nat.le_refl _) _).setCell (Nat.le_refl _) _
  generalize (w5.setCell ⟨w.heap.size, 0, none⟩ (.int .i64 T)).setCell ⟨w.heap.size, 1, none⟩ (.string D) = w6 at HQ6 HB6 ⊢
  clear b4 b5 HB5 HQ5 r0 r1 f0 f1 HR HT HK HZ HB0
  have g0 : w6.cell? ⟨w.heap.size, 0, none⟩ = some (.int .i64 T) := HQ6.out.cell (i := 0) (by omega)
  have g1 : w6.cell? ⟨w.heap.size, 1, none⟩ = some (.string D) := HQ6.out.cell (i := 1) (by omega)
  have HC : Hid (∀ w1, Calls Tryz.prog 24 #[.agg #[.int .i64 T, .string D]] w1 fun e w' => e = .returned (errv (entE (T, D))) ∧ Below w1.heap.size w1 w') := fun w1 => check_any T D w1 HSz.out
  go_upto_region 7 with fail
  have i6 : (0 : Int) ≤ 4 + (n.toNat : Int) := by omega
  clear hn hr ln i4 i5
  by_cases h0 : entE (T, D) = 0
  all_goals
    first | rw [h0, errv0] at HC | rw [errv_pos _ h0] at HC
    first | have HO : Hid (decide (entE (T, D) = 0) = true) := decide_eq_true h0 | have HO : Hid (decide (entE (T, D) = 0) = false) := decide_eq_false h0
    clear h0
    go_region_with (go_at_call 24; refine (HC.out _).mono ?_; rintro e w7 ⟨rfl, b7⟩; have HB7 : Hid (Below w6.heap.size w6 w7) := (Below.refl _ w6).drew.trans b7; have HQ7 : Hid (w7.rowIs w.heap.size 35 2 (fun j => if j = 1 then .string D else if j = 0 then .int .i64 T else if j = 0 then .int .i64 0 else .string ⟨#[]⟩)) := HQ6.out.of_block (HB7.out.block _ HQ6.out.lt); have r0 : w7.cell? ⟨w.heap.size, 0, none⟩ = some (.int .i64 T) := HQ7.out.cell (i := 0) (by omega); have r1 : w7.cell? ⟨w.heap.size, 1, none⟩ = some (.string D) := HQ7.out.cell (i := 1) (by omega); have f0 := HQ7.out.frozen 0; have f1 := HQ7.out.frozen 1)
  all_goals
    clear HC HSz g0 g1
    simp [Act.put]
    go_wp2_with fail
    try simp only [Exit.inBlock, Exit.then]
    refine bodyPost_ret (ret_take _ rfl (((HQ7.out.set 0 (.int .i64 T)).set 1 (.string D)).cell (i := 0) (by omega)) (((HQ7.out.set 0 (.int .i64 T)).set 1 (.string D)).cell (i := 1) (by omega))) rfl ?_
    refine ⟨?_, ((bt HB6.out HB7.out).setCell (Nat.le_refl _) _).setCell (Nat.le_refl _) _⟩
    rw [← HC2.out, HO.out]
    rfl

end Go.Proofs.YtofaegcljcpceagGreat.WalkEntOne
