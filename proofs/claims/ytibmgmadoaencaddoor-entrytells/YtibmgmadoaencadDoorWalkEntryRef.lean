/-
  What the document's own answers (package witref1) return on entries: Entry, Bytes, take, Decode, Entries, EntryLeafs, Unpack.
-/
import Derived.Test.YtibmgmadoaencadDoorWalkRef
import Derived.Test.YtibmgmadoaencadDoorEntRows
import Derived.StillTail
import Derived.BigRegion
import Derived.Deep.RegionWith
import Derived.Deep.DeepMust
import Derived.Deep.CutBlock
import Derived.Deep.MidRow
namespace Go.Proofs.YtibmgmadoaencadDoor.WalkEntryRef
open Go.RowKit
open Lists (Row ints bt)
open Keeps (Kept owns_kept owns_row owns_base)
open Wides (Wide)
open Entries (Entry entE take1 takes made)
open EntRows (cells cells_append)
open Nums (str)

theorem aggE (w : World) : (isAgg 33).run Tryd.prog w = .ok true w := by kernel_rfl
theorem sizeE (w : World) : (sizeOf 33).run Tryd.prog w = .ok 2 w := by kernel_rfl

theorem entry_any (t : Int) (d : ByteArray) (w : World) (hd : d.size ≤ maxLen) :
    Calls Tryd.prog 9 #[.agg #[.int .i64 t, .string d]] w fun e w' => e = .returned (.int .i64 (entE (t, d) : Nat)) ∧ Below w.heap.size w w' := by
  have b0 : Below w.heap.size w (w.alloc (.cells #[.int .i64 t, .string d] 33)) := (Below.refl _ _).alloc (Nat.le_refl _) _
  have hm : (d.size : Int) ≤ 9223372036854775807 := by unfold maxLen at hd; omega
  clear hd
  by_cases h0 : t < 0
  · have HV : Hid (entE (t, d) = 1) := if_pos (.inl h0)
    go_enter Tryd.func9, Tryd.ntmps9
    go_wp2_with fail
    go_ret
    exact ⟨by rw [HV.out]; rfl, b0⟩
  · by_cases h1 : 1000000 < t
    · have HV : Hid (entE (t, d) = 1) := if_pos (.inr h1)
      go_enter Tryd.func9, Tryd.ntmps9
      go_wp2_with fail
      go_ret
      exact ⟨by rw [HV.out]; rfl, b0⟩
    · by_cases h2 : 200 < d.size
      · have HV : Hid (entE (t, d) = 4) := by show _ = _; unfold entE; rw [if_neg (by simp only; omega), if_pos h2]
        have i2 : (200 : Int) < (d.size : Int) := by omega
        clear h2
        go_enter Tryd.func9, Tryd.ntmps9
        go_wp2_with fail
        go_ret
        exact ⟨by rw [HV.out]; rfl, b0⟩
      · have HV : Hid (entE (t, d) = 0) := by show _ = _; unfold entE; rw [if_neg (by simp only; omega), if_neg h2]
        have i2 : ¬ (200 : Int) < (d.size : Int) := by omega
        clear h2
        go_enter Tryd.func9, Tryd.ntmps9
        go_wp2_with fail
        go_ret
        exact ⟨by rw [HV.out]; rfl, b0⟩

/-- the first four bytes -/
def head4 (t : Int) (n : Nat) : List UInt8 := [UInt8.ofNat (t.toNat / 65536), UInt8.ofNat (t.toNat / 256), UInt8.ofNat t.toNat, UInt8.ofNat n]
theorem bytes_eq (t : Int) (d : ByteArray) : Entries.bytes (t, d) = head4 t d.size ++ d.data.toList := rfl
theorem cells_head (t : Int) (n : Nat) (h0 : 0 ≤ t) (h1 : t ≤ 1000000) (h2 : n ≤ 200) : WalkMix.cells (head4 t n) = [.int .u8 (t / 65536), .int .u8 (t / 256 % 256), .int .u8 (t % 256), .int .u8 (n : Int)] := by
  simp only [WalkMix.cells, head4, List.map_cons, List.map_nil, UInt8.toNat_ofNat', List.cons.injEq, Value.int.injEq, true_and, and_true]
  omega

set_option maxHeartbeats 1000000 in
theorem bytes_any (t : Int) (d : ByteArray) (w : World) (h : entE (t, d) = 0) :
    Calls Tryd.prog 11 #[.agg #[.int .i64 t, .string d]] w fun e w' => e = .returned (.string (str (Entries.bytes (t, d)))) ∧ Below w.heap.size w w' := by
  obtain ⟨h0, h1, h2⟩ := Entries.ent_ok h
  simp only at h0 h1 h2
  have i2 : (d.size : Int) ≤ 200 := by omega
  have i3 : (0 : Int) ≤ (d.size : Int) := by omega
  clear h
  go_enter Tryd.func11, Tryd.ntmps11
  go_upto_region 2 with fail
  have b0 : Below w.heap.size w ((w.alloc (.cells #[.int .i64 t, .string d] 33)).alloc (.cells #[.int .u8 (t / 65536), .int .u8 (t / 256 % 256), .int .u8 (t % 256), .int .u8 (d.size : Int)] 5)) := ((Below.refl _ _).alloc (Nat.le_refl _) _).alloc (by simp) _
  have o0 : ((w.alloc (.cells #[.int .i64 t, .string d] 33)).alloc (.cells #[.int .u8 (t / 65536), .int .u8 (t / 256 % 256), .int .u8 (t % 256), .int .u8 (d.size : Int)] 5)).ownsRow w.heap.size 5 1 (.slice (some ⟨w.heap.size + 1, 0, none⟩) 4 4) 4 (WalkMix.cells (head4 t d.size)) := by
    rw [cells_head t d.size h0 h1 h2]
    refine ⟨rfl, .inr ⟨w.heap.size + 1, 4, #[.int .u8 (t / 65536), .int .u8 (t / 256 % 256), .int .u8 (t % 256), .int .u8 (d.size : Int)], rfl, by omega, ?_, Nat.le_refl _, by decide, rfl, rfl⟩⟩
    have := heap_alloc_new (w.alloc (.cells #[.int .i64 t, .string d] 33)) (.cells #[.int .u8 (t / 65536), .int .u8 (t / 256 % 256), .int .u8 (t % 256), .int .u8 (d.size : Int)] 5)
    simpa using this
  have k1 : ((w.alloc (.cells #[.int .i64 t, .string d] 33)).alloc (.cells #[.int .u8 (t / 65536), .int .u8 (t / 256 % 256), .int .u8 (t % 256), .int .u8 (d.size : Int)] 5)).cell? ⟨w.heap.size, 1, none⟩ = some (.string d) := by rw [World.cell?_alloc_past _ _ _ (by simp)]; simp
  have s0 : ((w.alloc (.cells #[.int .i64 t, .string d] 33)).alloc (.cells #[.int .u8 (t / 65536), .int .u8 (t / 256 % 256), .int .u8 (t % 256), .int .u8 (d.size : Int)] 5)).heap.size = w.heap.size + 2 := by simp
  generalize (w.alloc (.cells #[.int .i64 t, .string d] 33)).alloc (.cells #[.int .u8 (t / 65536), .int .u8 (t / 256 % 256), .int .u8 (t % 256), .int .u8 (d.size : Int)] 5) = w1 at b0 o0 k1 s0 ⊢
  obtain ⟨i0, hi, hz0, hz1, hz2⟩ := info_parts WalkMix.info5
  obtain ⟨c, HC⟩ : ∃ c, Hid (grownCap w1 d.size 0 5 = c) := ⟨_, rfl⟩
  have kb := run_bytes_of_string (P := Tryd.prog) w1 9 46 5 d Tryd.underlying9 Tryd.underlying46 Tryd.underlying5
  rw [HC.out] at kb
  clear HC
  obtain ⟨fr, HF⟩ : ∃ fr, Hid (((bytesRow d c).size, (bytesRow d c).size + 1) = fr) := ⟨_, rfl⟩
  rw [HF.out] at kb
  clear HF
  have hsl : (WalkMix.cells d.data.toList).length = d.size * 1 := by simp [WalkMix.cells]
  go_wp2_with (at_builtin; go_must (refine wpList_append_own _ rfl (.tmp 22) (.tmp 25) 46 rfl w.heap.size 5 i0 (.int .u8 0) 1 1 Tryd.underlying46 hi hz0 hz1 hz2 rfl (by decide) _ _ _ rfl (o0.drew.alloc _) ⟨w.heap.size + 2, 0, none⟩ d.size c (WalkMix.cells d.data.toList) rfl hsl (WalkRef.bytes_at _ _ (by simp [s0]) d c _ fr) (WalkRef.cells_one _) (by unfold maxLen; omega) (by omega) (by simp; omega) ?_); intro v1 w2 o1 g1 z1; obtain ⟨g, cap, rfl, kc⟩ := WalkMix.ownsRow_cells (l := head4 t d.size ++ d.data.toList) (4 + d.size) (by rw [WalkMix.cells_append]; exact o1) (by simp [head4]; omega) (by omega); have b1 : Below w.heap.size w w2 := ((b0.drew.alloc (by simp; omega) _)).grown g1 (by simp; omega) (fun k hk => ((o0.lt k hk).1)); clear g1 o1 o0 kb z1)
  go_ret
  exact ⟨rfl, b1⟩

theorem cut_mid (a b c n : UInt8) (r : List UInt8) (k : Nat) : (str (a :: b :: c :: n :: r)).extract 4 (4 + k) = str (r.take k) := by
  apply ByteArray.ext
  apply Array.toList_inj.1
  simp [str]
theorem cut_end (a b c n : UInt8) (r : List UInt8) (k : Nat) : (str (a :: b :: c :: n :: r)).extract (4 + k) (r.length + 4) = str (r.drop k) := by
  apply ByteArray.ext
  apply Array.toList_inj.1
  have e : r.length + 4 - (4 + k) = r.length - k := by omega
  have d : (a :: b :: c :: n :: r).drop (4 + k) = r.drop k := by rw [Nat.add_comm]; rfl
  have q : (r.drop k).take (r.length - k) = r.drop k := List.take_of_length_le (by rw [List.length_drop]; omega)
  simp [str, e, d, q]
theorem made_fst (a b c : UInt8) (d : List UInt8) : (a.toNat : Int) * 65536 + (b.toNat : Int) * 256 + (c.toNat : Int) = (made a b c d).1 := by
  simp [made]

theorem zero_test (k : Nat) : (((k : Nat) : Int) == 0) = decide (k = 0) := by
  by_cases h : k = 0
  · subst h; rfl
  · rw [decide_eq_false h, beq_eq_false_iff_ne]; omega
theorem zero_row (w : World) : (w.alloc (.cells #[.int .i64 0, .string ⟨#[]⟩] 33)).rowIs w.heap.size 33 2 (fun j => if j = 0 then .int .i64 0 else .string ⟨#[]⟩) := World.rowIs_alloc _ _ _ _ (fun j hj => by match j, hj with | 0, _ | 1, _ => rfl | j + 2, h => simp at h; omega)
theorem ret_take {w : World} {g : Nat} {x y : Value} (tmps : Array Value) (hp : tmps.getD 2 undef = .pointer (some ⟨g, 0, none⟩)) (h0 : w.cell? ⟨g, 0, none⟩ = some x) (h1 : w.cell? ⟨g, 1, none⟩ = some y) :
    (results Tryd.f38 tmps).run Tryd.prog w = .ok (.tuple #[.agg #[x, y], tmps.getD 3 undef, tmps.getD 4 undef]) w := by
  have h : Tryd.f38.results = #[.cell 2 33, .tmp 3, .tmp 4] := rfl
  have hp' : tmps[2]?.getD undef = .pointer (some ⟨g, 0, none⟩) := by rw [← Array.getD_eq_getD_getElem?]; exact hp
  have hl := run_loadVar_mid (P := Tryd.prog) w g 0 33 [x, y] _ (fun j v hv => by match j, hv with | 0, hv => simp at hv; subst hv; simpa using h0 | 1, hv => simp at hv; subst hv; simpa using h1) Tryd.underlying33 rfl (by kernel_rfl)
  simp only [results, h]
  simp [hp', asAddr, hl, Result.andThen]

set_option maxHeartbeats 4000000 in
set_option maxRecDepth 100000 in
theorem take_in (a b c n : UInt8) (r : List UInt8) (s : ByteArray) (w : World) (hs : s = str (a :: b :: c :: n :: r)) (hn : n.toNat ≤ r.length) (hr : r.length ≤ 140737488351232) :
    Calls Tryd.prog 38 #[.string s] w fun e w' => e = .returned (.tuple #[.agg #[.int .i64 (made a b c (r.take n.toNat)).1, .string (made a b c (r.take n.toNat)).2], .string (str (r.drop n.toNat)), .bool (decide (entE (made a b c (r.take n.toNat)) = 0))]) ∧ Below w.heap.size w w' := by
  have hsz : s.size = r.length + 4 := by rw [hs, Nums.str_size]; simp
  have z0 : ∀ h, s[0]'h = a := by subst hs; intro h; rfl
  have z1 : ∀ h, s[1]'h = b := by subst hs; intro h; rfl
  have z2 : ∀ h, s[2]'h = c := by subst hs; intro h; rfl
  have z3 : ∀ h, s[3]'h = n := by subst hs; intro h; rfl
  have la := a.toNat_lt
  have lb := b.toNat_lt
  have lc := c.toNat_lt
  have ln := n.toNat_lt
  have HS : Hid (s = str (a :: b :: c :: n :: r)) := hs
  have i0 : ¬ (s.size : Int) < 4 := by omega
  have i1 : ¬ (s.size : Int) < 4 + (n.toNat : Int) := by omega
  have i2 : (3 : Int) < (s.size : Int) := by omega
  have i3 : 3 < s.size := by omega
  clear hs
  go_enter Tryd.func38, Tryd.ntmps38
  go_upto_region 4 with fail
  have b0 : Below w.heap.size w (w.alloc (.cells #[.int .i64 0, .string ⟨#[]⟩] 33)) := (Below.refl _ _).alloc (Nat.le_refl _) _
  have k0 : (w.alloc (.cells #[.int .i64 0, .string ⟨#[]⟩] 33)).rowIs w.heap.size 33 2 (fun j => if j = 0 then .int .i64 0 else .string ⟨#[]⟩) := World.rowIs_alloc _ _ _ _ (fun j hj => by match j, hj with | 0, _ | 1, _ => rfl | j + 2, h => simp at h; omega)
  generalize w.alloc (.cells #[.int .i64 0, .string ⟨#[]⟩] 33) = w1 at b0 k0 ⊢
  have HC1 : Hid (s.extract 4 (4 + n.toNat) = str (r.take n.toNat)) := by
    rw [HS.out]
    exact cut_mid a b c n r _
  have i4 : (4 : Int) + (n.toNat : Int) ≤ (s.size : Int) := by omega
  have i5 : (4 : Int) ≤ (4 : Int) + (n.toNat : Int) := by omega
  have j0 : (0 : Int) < (s.size : Int) := by omega
  have j1 : (1 : Int) < (s.size : Int) := by omega
  have j2 : (2 : Int) < (s.size : Int) := by omega
  have m0 : 0 < s.size := by omega
  have m1 : 1 < s.size := by omega
  have m2 : 2 < s.size := by omega
  have HT : Hid ((a.toNat : Int) * 65536 + (b.toNat : Int) * 256 + (c.toNat : Int) = (made a b c (r.take n.toNat)).1) := made_fst a b c _
  have HDs : Hid (s.extract 4 (4 + n.toNat) = (made a b c (r.take n.toNat)).2) := HC1.out
  have HC2 : Hid (s.extract (4 + n.toNat) (r.length + 4) = str (r.drop n.toNat)) := by
    rw [HS.out]
    exact cut_end a b c n r _
  have HSz : Hid ((made a b c (r.take n.toNat)).2.size ≤ maxLen) := by
    show (str (r.take n.toNat)).size ≤ maxLen
    rw [Nums.str_size, List.length_take]
    unfold maxLen
    omega
  go_region
  rw [HDs.out, HT.out]
  generalize hE : made a b c (r.take n.toNat) = E at HSz
  have HE : Hid (made a b c (r.take n.toNat) = E) := hE
  clear hE
  obtain ⟨T, D⟩ := E
  simp only at HSz
  have b2 : Below w1.heap.size w1 (w1.alloc (.cells #[.int .i64 T, .string D] 33)) := (Below.refl _ _).alloc (Nat.le_refl _) _
  have c0 : (w1.alloc (.cells #[.int .i64 T, .string D] 33)).cell? ⟨w1.heap.size, 0, none⟩ = some (.int .i64 T) := by simp
  have c1 : (w1.alloc (.cells #[.int .i64 T, .string D] 33)).cell? ⟨w1.heap.size, 1, none⟩ = some (.string D) := by simp
  have q0 := k0.of_block (b2.block _ k0.lt)
  generalize w1.alloc (.cells #[.int .i64 T, .string D] 33) = w2 at b2 c0 c1 q0 ⊢
  have HB2 : Hid (Below w.heap.size w w2.drew) := (bt b0 b2).drew
  replace q0 := q0.drew
  have HQ : Hid (w2.drew.rowIs w.heap.size 33 2 (fun j => if j = 0 then .int .i64 0 else .string ⟨#[]⟩)) := q0
  have c0' : w2.drew.cell? ⟨w1.heap.size, 0, none⟩ = some (.int .i64 T) := c0
  have c1' : w2.drew.cell? ⟨w1.heap.size, 1, none⟩ = some (.string D) := c1
  have hlt : w.heap.size < w2.drew.heap.size := q0.lt
  clear b0 b2 k0 c0 c1 q0 HT HDs HC1 z0 z1 z2 z3 la lb lc
  generalize w2.drew = w3 at HB2 HQ c0' c1' hlt ⊢
  have a23 := aggE
  have z23 := sizeE
  go_upto_region 5 with fail
  have i6 : (4 : Int) + (n.toNat : Int) ≤ (r.length : Int) + 4 := by omega
  go_region_with (go_at_call 9; refine (entry_any T D _ HSz.out).mono ?_; rintro e w4 ⟨rfl, b4⟩; have p0 := Lists.cell_below b4 c0'; have p1 := Lists.cell_below b4 c1'; have HQ4 : Hid (w4.rowIs w.heap.size 33 2 (fun j => if j = 0 then .int .i64 0 else .string ⟨#[]⟩)) := HQ.out.of_block (b4.block _ hlt); have r0 := HQ4.out.cell (i := 0) (by omega); have r1 := HQ4.out.cell (i := 1) (by omega); have f0 := HQ4.out.frozen 0; have f1 := HQ4.out.frozen 1)
  all_goals
    clear HS i2 i3 j0 j1 j2 m0 m1 m2
    go_wp2_with fail
    try simp only [Exit.inBlock, Exit.then]
    refine bodyPost_ret (ret_take _ rfl (((HQ4.out.set 0 (.int .i64 T)).set 1 (.string D)).cell (i := 0) (by omega)) (((HQ4.out.set 0 (.int .i64 T)).set 1 (.string D)).cell (i := 1) (by omega))) rfl ?_
    refine ⟨?_, ((bt HB2.out ((Below.refl _ w3).drew.trans b4)).setCell (Nat.le_refl _) _).setCell (Nat.le_refl _) _⟩
    show Ending.returned (.tuple #[.agg #[.int .i64 T, .string D], .string (s.extract (4 + n.toNat) (r.length + 4)), .bool (((entE (T, D) : Nat) : Int) == 0)]) = _
    rw [HE.out, HC2.out, zero_test]

set_option maxHeartbeats 1000000 in
/-- there are not so many bytes -/
theorem take_out (s : ByteArray) (w : World) (hm : s.size ≤ maxLen) (h : s.size < 4 ∨ ∃ h3 : 3 < s.size, s.size < 4 + (s[3]'h3).toNat) :
    Calls Tryd.prog 38 #[.string s] w fun e w' => e = .returned (.tuple #[.agg #[.int .i64 0, .string ⟨#[]⟩], .string ⟨#[]⟩, .bool false]) ∧ Below w.heap.size w w' := by
  have b0 : Below w.heap.size w (w.alloc (.cells #[.int .i64 0, .string ⟨#[]⟩] 33)) := (Below.refl _ _).alloc (Nat.le_refl _) _
  have HZ : Hid ((w.alloc (.cells #[.int .i64 0, .string ⟨#[]⟩] 33)).rowIs w.heap.size 33 2 (fun j => if j = 0 then .int .i64 0 else .string ⟨#[]⟩)) := zero_row w
  have HB0 : Hid (Below w.heap.size w (w.alloc (.cells #[.int .i64 0, .string ⟨#[]⟩] 33))) := b0
  have r0 := HZ.out.cell (i := 0) (by omega)
  have r1 := HZ.out.cell (i := 1) (by omega)
  have f0 := HZ.out.frozen 0
  have f1 := HZ.out.frozen 1
  unfold maxLen at hm
  clear b0
  rcases h with h | ⟨h3, h⟩
  · have i0 : (s.size : Int) < 4 := by omega
    clear h
    go_enter Tryd.func38, Tryd.ntmps38
    go_upto_region 2 with fail
    generalize w.alloc (.cells #[.int .i64 0, .string ⟨#[]⟩] 33) = w1 at HZ HB0 r0 r1 f0 f1 ⊢
    go_wp2_with fail
    try simp only [Exit.inBlock, Exit.then]
    refine bodyPost_ret (ret_take _ rfl (((HZ.out.set 0 (.int .i64 0)).set 1 (.string ⟨#[]⟩)).cell (i := 0) (by omega)) (((HZ.out.set 0 (.int .i64 0)).set 1 (.string ⟨#[]⟩)).cell (i := 1) (by omega))) rfl ?_
    exact ⟨rfl, (HB0.out.setCell (Nat.le_refl _) _).setCell (Nat.le_refl _) _⟩
  · have i0 : ¬ (s.size : Int) < 4 := by omega
    have i2 : (3 : Int) < (s.size : Int) := by omega
    have hl := (s[3]'h3).toNat_lt
    obtain ⟨n, HN⟩ : ∃ n : UInt8, Hid (s[3]'h3 = n) := ⟨_, rfl⟩
    rw [HN.out] at h hl
    have z3 : ∀ h, s[3]'h = n := fun _ => HN.out
    have i1 : (s.size : Int) < 4 + (n.toNat : Int) := by omega
    clear h
    go_enter Tryd.func38, Tryd.ntmps38
    go_upto_region 2 with fail
    generalize w.alloc (.cells #[.int .i64 0, .string ⟨#[]⟩] 33) = w1 at HZ HB0 r0 r1 f0 f1 ⊢
    go_wp2_with fail
    try simp only [Exit.inBlock, Exit.then]
    refine bodyPost_ret (ret_take _ rfl (((HZ.out.set 0 (.int .i64 0)).set 1 (.string ⟨#[]⟩)).cell (i := 0) (by omega)) (((HZ.out.set 0 (.int .i64 0)).set 1 (.string ⟨#[]⟩)).cell (i := 1) (by omega))) rfl ?_
    exact ⟨rfl, (HB0.out.setCell (Nat.le_refl _) _).setCell (Nat.le_refl _) _⟩

end Go.Proofs.YtibmgmadoaencadDoor.WalkEntryRef
