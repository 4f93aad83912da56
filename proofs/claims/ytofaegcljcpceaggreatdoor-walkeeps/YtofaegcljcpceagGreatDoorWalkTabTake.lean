/-
  What of package table bytes are read by: takeText, takeFirst, takeAll, cutWord.
-/
import Derived.Test.YtofaegcljcpceagGreatDoorWalkTabOne
import Derived.Test.YtofaegcljcpceagGreatDoorWalkClone
import Derived.Lib.QuietBelow
import Derived.Deep.MidRow
import Derived.Laws.ResultCell
import Derived.Laws.BitsLemmas
import Derived.Laws.BytesArg
namespace Go.Proofs.YtofaegcljcpceagGreatDoor.WalkTabTake
open Go.RowKit
open Lists (bt)
open Keeps (Kept owns_kept owns_base)
open Wides (Wide)
open Stores (Pair)
open PairRows (cells cells_append)
open Tabs (fault take1 parse pairsE)
open TabOpens (text1 word takesT lastKey)
open Errs (errv errv0 errv_pos)
open Nums (str)
open WalkTabOne (aggP sizeP eq_yes eq_no empty_is empty_yes empty_no)
open Go.Sort (grow)

theorem cut_list (r : ByteArray) (i j : Nat) : r.extract i j = str ((r.data.toList.take j).drop i) := by
  apply ByteArray.ext
  apply Array.toList_inj.1
  simp [str, List.drop_take]
theorem size_list (s : ByteArray) : s.data.toList.length = s.size := Array.length_toList
theorem at_zero {s : ByteArray} {a : UInt8} {r : List UInt8} (h : s.data.toList = a :: r) : ∀ g, s[0]'g = a := by
  intro g
  have h3 : s.data.toList[0]'(by rw [h]; simp) = a := by simp only [h, List.getElem_cons_zero]
  rw [← h3]
  rfl
theorem nonempty {s : ByteArray} (h : s.size ≠ 0) : ∃ a r, s.data.toList = a :: r := List.exists_cons_of_ne_nil fun e => h (by rw [← size_list, e]; rfl)

set_option maxHeartbeats 1000000 in
theorem takeText_none (s : ByteArray) (w : World) (hs : s.size ≤ maxLen) (h : text1 s.data.toList = none) :
    Calls Tryz.prog 121 #[.string s] w fun e w' => e = .returned (.tuple #[.string ⟨#[]⟩, .string ⟨#[]⟩, .bool false]) ∧ Below w.heap.size w w' := by
  by_cases h0 : s.size = 0
  · have e0 := empty_yes h0
    clear h h0 hs
    go_enter Tryz.func121, Tryz.ntmps121
    go_wp2_with fail
    go_ret3
    exact ⟨rfl, Below.refl _ _⟩
  · have e0 := empty_no h0
    obtain ⟨a, r, e⟩ := nonempty h0
    have z0 := at_zero e
    have hl : r.length + 1 = s.size := by rw [← size_list, e]; rfl
    rw [e, text1] at h
    have h1 : r.length < a.toNat := by
      by_cases c : r.length < a.toNat
      · exact c
      · rw [if_neg c] at h; cases h
    have la := a.toNat_lt
    have j0 : (0 : Int) < (s.size : Int) := by omega
    have i1 : (s.size : Int) < 1 + (a.toNat : Int) := by omega
    have i2 : (s.size : Int) ≤ 9223372036854775807 := by unfold maxLen at hs; omega
    clear h h1 hs h0 e hl
    go_enter Tryz.func121, Tryz.ntmps121
    go_wp2_with fail
    go_ret3
    exact ⟨rfl, Below.refl _ _⟩

set_option maxHeartbeats 1000000 in
theorem takeText_some (s : ByteArray) (w : World) (hs : s.size ≤ 140737488351232) (t q : List UInt8) (h : text1 s.data.toList = some (t, q)) :
    Calls Tryz.prog 121 #[.string s] w fun e w' => e = .returned (.tuple #[.string (str t), .string (str q), .bool true]) ∧ Below w.heap.size w w' := by
  have h0 : s.size ≠ 0 := fun e => by rw [List.length_eq_zero_iff.1 ((size_list s).trans e)] at h; cases h
  have e0 := empty_no h0
  obtain ⟨a, r, e⟩ := nonempty h0
  have z0 := at_zero e
  have hl : r.length + 1 = s.size := by rw [← size_list, e]; rfl
  rw [e, text1] at h
  have la := a.toNat_lt
  have h1 : ¬ r.length < a.toNat := fun c => by rw [if_pos c] at h; cases h
  rw [if_neg h1] at h
  simp only [Option.some.injEq, Prod.mk.injEq] at h
  have HT : Hid (s.extract 1 (1 + a.toNat) = str t) := by
    show _ = _
    rw [cut_list, e, Nat.add_comm, List.take_succ_cons, List.drop_succ_cons, List.drop_zero, h.1]
  have HQ : Hid (s.extract (1 + a.toNat) s.size = str q) := by
    show _ = _
    rw [cut_list, List.take_of_length_le (by rw [size_list]; exact Nat.le_refl _), e, Nat.add_comm, List.drop_succ_cons, h.2]
  have HL : Hid (t.length ≤ 256) := by show _ ≤ _; rw [← h.1, List.length_take]; omega
  have j0 : (0 : Int) < (s.size : Int) := by omega
  have i1 : ¬ (s.size : Int) < 1 + (a.toNat : Int) := by omega
  have i2 : (s.size : Int) ≤ 9223372036854775807 := by omega
  have i3 : 1 + (a.toNat : Int) ≤ (s.size : Int) := by omega
  have i4 : (1 : Int) ≤ 1 + (a.toNat : Int) := by omega
  have i5 : (0 : Int) ≤ 1 + (a.toNat : Int) := by omega
  clear h h1 hs h0 e hl
  go_enter Tryz.func121, Tryz.ntmps121
  go_upto_region 6 with fail
  have c1 : ∀ q os, Calls Tryz.prog 107 #[.string (s.extract 1 (1 + a.toNat))] (grow (redrawn w q) os) fun e w'' => e = .returned (.string (str t)) ∧ ∃ p : Regrown, w'' = grow (redrawn w p.d) p.os := fun q os => by
    rw [HT.out]
    exact Calls.regrown_of (WalkClone.clone_any (str t) _ (by rw [Nums.str_size]; have := HL.out; omega))
  clear z0 j0 i1 HL
  refine wp_region_quiet_below (by kernel_rfl) (by kernel_rfl) ?_
  iterate 3 (quiet_step (fail))
  quiet_step (exact c1 _ _)
  iterate 6 (quiet_step (fail))
  refine wpQuiet_nil ?_
  intro _ hw'
  obtain ⟨⟨dq, osq⟩, hw''⟩ := hw'
  subst hw''
  have HB : Hid (Below w.heap.size w (grow (redrawn w dq) osq)) := below_regrown w dq osq
  clear c1
  generalize grow (redrawn w dq) osq = w1 at HB ⊢
  go_wp2_with fail
  go_ret3
  exact ⟨by rw [← HQ.out]; rfl, HB.out⟩

/-! a word at the end -/
theorem wraps64 (n : Int) (h0 : 0 ≤ n) (h1 : n < 2 ^ 62) : IntKind.i64.wrap n = n := by rw [IntKind.wrap_i64]; omega
theorem or_byte (N : Nat) (c : UInt8) (h : N ≤ 16777216) : bits .or .i64 ((N : Int) * 256) (c.toNat : Int) = ((N * 256 + c.toNat : Nat) : Int) := by
  have lc := c.toNat_lt
  rw [bits_join .i64 62 (by decide) wraps64 8 _ _ (by omega) (by omega) (by omega) (by omega) (by omega) (by omega)]
  omega
theorem add_at (g i : Nat) : (⟨g, 0, none⟩ : Addr).add i = ⟨g, i, none⟩ := by unfold Addr.add; split <;> simp_all
theorem bytes_at (W : World) (s : ByteArray) (cap : Nat) (e : TypeId) (fr : Nat × Nat) (j : Nat) (c : UInt8) (hj : s.data.toList[j]? = some c) :
    (W.alloc (.cells (bytesRow s cap) e fr)).cell? ⟨W.heap.size, j, none⟩ = some (.int .u8 (c.toNat : Int)) := by
  have hl : j < s.data.toList.length := (List.getElem?_eq_some_iff.1 hj).1
  rw [cell_of_row _ _ _ (bytesRow s cap) e fr (heap_alloc_new W _)]
  have hl' : j < (s.data.map (fun b => Value.int .u8 (b.toNat : Int))).size := by simpa using hl
  rw [bytesRow, Array.getElem?_append_left hl']
  simp at hj ⊢
  rw [hj]
  exact ⟨c, rfl, rfl⟩

theorem cutWord_short (s : ByteArray) (w : World) (h : s.size < 4) :
    Calls Tryz.prog 115 #[.string s] w fun e w' => e = .returned (.tuple #[.string ⟨#[]⟩, .int .i64 0, .bool false]) ∧ Below w.heap.size w w' := by
  have i1 : (s.size : Int) - 4 < 0 := by omega
  go_enter Tryz.func115, Tryz.ntmps115
  go_wp2_with fail
  go_ret3
  exact ⟨rfl, Below.refl _ _⟩

set_option maxHeartbeats 1000000 in
theorem cutWord_any (s : ByteArray) (b r : List UInt8) (w : World) (hs : s.data.toList = b ++ r) (hr : r.length = 4) (hb : b.length ≤ 140737488351232) :
    Calls Tryz.prog 115 #[.string s] w fun e w' => e = .returned (.tuple #[.string (str b), .int .i64 (word r : Nat), .bool true]) ∧ Below w.heap.size w w' := by
  have hl : s.size = b.length + 4 := by rw [← size_list, hs, List.length_append, hr]
  have HB : Hid (s.extract 0 b.length = str b) := by show _ = _; rw [cut_list, hs, List.take_left]; rfl
  have HR : Hid (s.extract b.length s.size = str r) := by show _ = _; rw [cut_list, List.take_of_length_le (by rw [size_list]; exact Nat.le_refl _), hs, List.drop_left]
  generalize hN : b.length = N at *
  have i1 : (s.size : Int) - 4 = (N : Int) := by omega
  have i2 : (N : Int) ≤ (s.size : Int) := by omega
  have i3 : (0 : Int) ≤ (N : Int) := by omega
  have i4 : ¬ (N : Int) < 0 := by omega
  have i5 : (s.size : Int) ≤ 9223372036854775807 := by omega
  clear hs hN hl
  go_enter Tryz.func115, Tryz.ntmps115
  go_upto_region 4 with fail
  obtain ⟨R, HX⟩ : ∃ R, Hid (s.extract N s.size = R) := ⟨_, rfl⟩
  have HRl : Hid (R.data.toList = r) := by show _ = _; rw [← HX.out, HR.out]; rfl
  have hR : R.size = 4 := by rw [← size_list, HRl.out, hr]
  obtain ⟨c, HC⟩ : ∃ c, Hid (grownCap w 4 0 5 = c) := ⟨_, rfl⟩
  have kb := run_bytes_of_string (P := Tryz.prog) w 9 53 5 R Tryz.underlying9 Tryz.underlying53 Tryz.underlying5
  rw [hR, HC.out] at kb
  obtain ⟨fr, HF⟩ : ∃ fr, Hid (((bytesRow R c).size, (bytesRow R c).size + 1) = fr) := ⟨_, rfl⟩
  rw [HF.out] at kb
  have HBe : Hid (Below w.heap.size w (w.alloc (.cells (bytesRow R c) 5 fr)).drew) := ((Below.refl _ w).drew.alloc (Nat.le_refl _) _)
  have HCe : Hid (∀ j d, r[j]? = some d → (w.alloc (.cells (bytesRow R c) 5 fr)).drew.cell? ⟨w.heap.size, j, none⟩ = some (.int .u8 (d.toNat : Int))) := fun j d h => bytes_at w.drew R c _ fr j d (by rw [HRl.out]; exact h)
  have hX := HX.out
  clear HC HF HX HRl
  go_upto_region 5 with fail
  generalize (w.alloc (.cells (bytesRow R c) 5 fr)).drew = w1 at HBe HCe ⊢
  have HW : Hid (∀ k, k ≤ 3 → word (r.take k) ≤ 16777216) := by
    intro k hk
    have h := TabOpens.word_lt k (r.take k) (by rw [List.length_take]; omega)
    have : 256 ^ k ≤ 256 ^ 3 := Nat.pow_le_pow_right (by omega) hk
    omega
  clear kb hX hR i1 hb i4
  go_loopw [3, 7, 18] (fun s3 _ s18 wr => ∃ k : Nat, k ≤ 4 ∧ s3 = .int .i64 (word (r.take k) : Nat) ∧ s18 = .int .i64 (k : Int) ∧ wr = w1) (fun _ _ s18 _ => 4 - (intOf s18).toNat)
  case atStart => exact ⟨0, by omega, by rw [List.take_zero]; rfl, rfl, rfl⟩
  case round =>
    obtain ⟨k, hk, rfl, rfl, rfl⟩ := hrel
    by_cases hlt : k < 4
    · have i6 : (k : Int) < 4 := by omega
      obtain ⟨d, hd⟩ : ∃ d, r[k]? = some d := ⟨_, List.getElem?_eq_getElem (by omega)⟩
      have c0 := HCe.out k d hd
      have HN : Hid (word (r.take (k + 1)) = word (r.take k) * 256 + d.toNat) := by
        show _ = _
        rw [List.take_add_one, hd, ← TabOpens.word_snoc]
        rfl
      have w0 := HW.out k (by omega)
      have ld := d.toNat_lt
      generalize word (r.take k) = M at HN w0
      have w2 := or_byte M d w0
      have w3 : (M : Int) ≤ 16777216 := by omega
      have w4 : (0 : Int) ≤ (M : Int) := by omega
      clear hd w0
      go_wp2_with fail
      go_roundw
      case rel => exact ⟨k + 1, by omega, by rw [HN.out]; rfl, by go_num, trivial⟩
      case measure => simp [intOf]; omega
    · obtain rfl : k = 4 := by omega
      rw [List.take_of_length_le (by omega)]
      go_wp2_with fail
      go_ret3
      exact ⟨by rw [HB.out]; rfl, HBe.out⟩

/-! one pair -/
theorem zero_row (w : World) : (w.alloc (.cells #[.string ⟨#[]⟩, .string ⟨#[]⟩, .bool false] 31)).rowIs w.heap.size 31 3 (fun j => if j = 0 then .string ⟨#[]⟩ else if j = 1 then .string ⟨#[]⟩ else .bool false) := World.rowIs_alloc _ _ _ _ (fun j hj => by match j, hj with | 0, _ | 1, _ | 2, _ => rfl | j + 3, h => simp at h; omega)
theorem ret_take {w : World} {g : Nat} {x y z : Value} (tmps : Array Value) (hp : tmps.getD 2 undef = .pointer (some ⟨g, 0, none⟩)) (h0 : w.cell? ⟨g, 0, none⟩ = some x) (h1 : w.cell? ⟨g, 1, none⟩ = some y) (h2 : w.cell? ⟨g, 2, none⟩ = some z) :
    (results Tryz.f119 tmps).run Tryz.prog w = .ok (.tuple #[.agg #[x, y, z], tmps.getD 3 undef, tmps.getD 4 undef]) w := by
  have h : Tryz.f119.results = #[.cell 2 31, .tmp 3, .tmp 4] := rfl
  have hp' : tmps[2]?.getD undef = .pointer (some ⟨g, 0, none⟩) := by rw [← Array.getD_eq_getD_getElem?]; exact hp
  have hl := run_loadVar_mid (P := Tryz.prog) w g 0 31 [x, y, z] _ (fun j v hv => by match j, hv with | 0, hv => simp at hv; subst hv; simpa using h0 | 1, hv => simp at hv; subst hv; simpa using h1 | 2, hv => simp at hv; subst hv; simpa using h2) Tryz.underlying31 rfl (by kernel_rfl)
  simp only [results, h]
  simp [hp', asAddr, hl, Result.andThen]

set_option maxHeartbeats 1000000 in
/-- there is none: no key, nothing behind it, or a byte that is no mark -/
theorem first_out (s : ByteArray) (w : World) (hs : s.size ≤ 140737488351232) (h : text1 s.data.toList = none ∨ ∃ k r, text1 s.data.toList = some (k, r) ∧ ∀ g t, r = g :: t → 1 < g.toNat) :
    Calls Tryz.prog 119 #[.string s] w fun e w' => e = .returned (.tuple #[.agg #[.string ⟨#[]⟩, .string ⟨#[]⟩, .bool false], .string ⟨#[]⟩, .bool false]) ∧ Below w.heap.size w w' := by
  have HZ : Hid ((w.alloc (.cells #[.string ⟨#[]⟩, .string ⟨#[]⟩, .bool false] 31)).rowIs w.heap.size 31 3 (fun j => if j = 0 then .string ⟨#[]⟩ else if j = 1 then .string ⟨#[]⟩ else .bool false)) := zero_row w
  have HB : Hid (Below w.heap.size w (w.alloc (.cells #[.string ⟨#[]⟩, .string ⟨#[]⟩, .bool false] 31))) := (Below.refl _ _).alloc (Nat.le_refl _) _
  have HS : Hid (s.size ≤ 140737488351232) := hs
  have a26 := aggP
  have z26 := sizeP
  clear hs
  go_enter Tryz.func119, Tryz.ntmps119
  go_wp2_with fail
  generalize w.alloc (.cells #[.string ⟨#[]⟩, .string ⟨#[]⟩, .bool false] 31) = w1 at HZ HB ⊢
  rcases h with h | ⟨k, r, h, hr⟩
  · refine (takeText_none s _ (by have := HS.out; unfold maxLen; omega) h).mono ?_
    rintro e w2 ⟨rfl, b2⟩
    have HZ2 : Hid (w2.rowIs w.heap.size 31 3 (fun j => if j = 0 then .string ⟨#[]⟩ else if j = 1 then .string ⟨#[]⟩ else .bool false)) := HZ.out.of_block (b2.block _ HZ.out.lt)
    have HB2 : Hid (Below w.heap.size w w2) := bt HB.out b2
    have r0 := HZ2.out.cell (i := 0) (by omega)
    have r1 := HZ2.out.cell (i := 1) (by omega)
    have r2 := HZ2.out.cell (i := 2) (by omega)
    have f0 := HZ2.out.frozen 0
    have f1 := HZ2.out.frozen 1
    have f2 := HZ2.out.frozen 2
    clear b2 h
    go_wp2_with fail
    try simp only [Exit.inBlock, Exit.then]
    refine bodyPost_ret (ret_take _ rfl ((((HZ2.out.set 0 (.string ⟨#[]⟩)).set 1 (.string ⟨#[]⟩)).set 2 (.bool false)).cell (i := 0) (by omega)) ((((HZ2.out.set 0 (.string ⟨#[]⟩)).set 1 (.string ⟨#[]⟩)).set 2 (.bool false)).cell (i := 1) (by omega)) ((((HZ2.out.set 0 (.string ⟨#[]⟩)).set 1 (.string ⟨#[]⟩)).set 2 (.bool false)).cell (i := 2) (by omega))) rfl ?_
    exact ⟨rfl, ((HB2.out.setCell (Nat.le_refl _) _).setCell (Nat.le_refl _) _).setCell (Nat.le_refl _) _⟩
  · refine (takeText_some s _ HS.out k r h).mono ?_
    rintro e w2 ⟨rfl, b2⟩
    have HZ2 : Hid (w2.rowIs w.heap.size 31 3 (fun j => if j = 0 then .string ⟨#[]⟩ else if j = 1 then .string ⟨#[]⟩ else .bool false)) := HZ.out.of_block (b2.block _ HZ.out.lt)
    have HB2 : Hid (Below w.heap.size w w2) := bt HB.out b2
    have r0 := HZ2.out.cell (i := 0) (by omega)
    have r1 := HZ2.out.cell (i := 1) (by omega)
    have r2 := HZ2.out.cell (i := 2) (by omega)
    have f0 := HZ2.out.frozen 0
    have f1 := HZ2.out.frozen 1
    have f2 := HZ2.out.frozen 2
    clear b2 h
    cases r with
    | nil =>
      have e1 : ((str []).toList == []) = true := by rw [Nums.str_toList]; rfl
      clear hr
      generalize str [] = q at e1 ⊢
      generalize str k = k' at *
      go_wp2_with fail
      try simp only [Exit.inBlock, Exit.then]
      refine bodyPost_ret (ret_take _ rfl ((((HZ2.out.set 0 (.string ⟨#[]⟩)).set 1 (.string ⟨#[]⟩)).set 2 (.bool false)).cell (i := 0) (by omega)) ((((HZ2.out.set 0 (.string ⟨#[]⟩)).set 1 (.string ⟨#[]⟩)).set 2 (.bool false)).cell (i := 1) (by omega)) ((((HZ2.out.set 0 (.string ⟨#[]⟩)).set 1 (.string ⟨#[]⟩)).set 2 (.bool false)).cell (i := 2) (by omega))) rfl ?_
      exact ⟨rfl, ((HB2.out.setCell (Nat.le_refl _) _).setCell (Nat.le_refl _) _).setCell (Nat.le_refl _) _⟩
    | cons g t =>
      have e1 : ((str (g :: t)).toList == []) = false := by rw [Nums.str_toList]; rfl
      have z0 := at_zero (Nums.str_data (g :: t))
      have hg := hr g t rfl
      have lg := g.toNat_lt
      have j0 : (0 : Int) < ((str (g :: t)).size : Int) := by rw [Nums.str_size, List.length_cons]; omega
      have j1 : (1 : Int) < (g.toNat : Int) := by omega
      clear hr hg
      generalize str (g :: t) = q at e1 z0 j0 ⊢
      generalize str k = k' at *
      go_wp2_with fail
      try simp only [Exit.inBlock, Exit.then]
      refine bodyPost_ret (ret_take _ rfl ((((HZ2.out.set 0 (.string ⟨#[]⟩)).set 1 (.string ⟨#[]⟩)).set 2 (.bool false)).cell (i := 0) (by omega)) ((((HZ2.out.set 0 (.string ⟨#[]⟩)).set 1 (.string ⟨#[]⟩)).set 2 (.bool false)).cell (i := 1) (by omega)) ((((HZ2.out.set 0 (.string ⟨#[]⟩)).set 1 (.string ⟨#[]⟩)).set 2 (.bool false)).cell (i := 2) (by omega))) rfl ?_
      exact ⟨rfl, ((HB2.out.setCell (Nat.le_refl _) _).setCell (Nat.le_refl _) _).setCell (Nat.le_refl _) _⟩

set_option maxHeartbeats 1000000 in
/-- a key and a mark; then what the value's bytes tell: some text, what is left, and whether it is whole -/
theorem first_in (s : ByteArray) (w : World) (hs : s.size ≤ 140737488351232) (k t : List UInt8) (g : UInt8) (h : text1 s.data.toList = some (k, g :: t)) (hg : ¬ 1 < g.toNat) (v q : ByteArray) (ok : Bool)
    (hT : ∀ w1, Calls Tryz.prog 121 #[.string (str t)] w1 fun e w' => e = .returned (.tuple #[.string v, .string q, .bool ok]) ∧ Below w1.heap.size w1 w') :
    Calls Tryz.prog 119 #[.string s] w fun e w' => e = .returned (.tuple #[.agg #[.string (str k), .string v, .bool (decide (g.toNat = 1))], .string q, .bool ok]) ∧ Below w.heap.size w w' := by
  have HZ : Hid ((w.alloc (.cells #[.string ⟨#[]⟩, .string ⟨#[]⟩, .bool false] 31)).rowIs w.heap.size 31 3 (fun j => if j = 0 then .string ⟨#[]⟩ else if j = 1 then .string ⟨#[]⟩ else .bool false)) := zero_row w
  have HB : Hid (Below w.heap.size w (w.alloc (.cells #[.string ⟨#[]⟩, .string ⟨#[]⟩, .bool false] 31))) := (Below.refl _ _).alloc (Nat.le_refl _) _
  have HT : Hid (∀ w1, Calls Tryz.prog 121 #[.string (str t)] w1 fun e w' => e = .returned (.tuple #[.string v, .string q, .bool ok]) ∧ Below w1.heap.size w1 w') := hT
  have a26 := aggP
  have z26 := sizeP
  have lg := g.toNat_lt
  have j1 : ¬ (1 : Int) < (g.toNat : Int) := by omega
  have hq : ((g.toNat : Int) == 1) = decide (g.toNat = 1) := by
    by_cases h : g.toNat = 1
    · rw [decide_eq_true h, h]; rfl
    · rw [decide_eq_false h, beq_eq_false_iff_ne]; omega
  have hlen := (TabOpens.text1_shorter h).1
  rw [size_list, List.length_cons] at hlen
  clear hT hg
  go_enter Tryz.func119, Tryz.ntmps119
  go_wp2_with fail
  generalize w.alloc (.cells #[.string ⟨#[]⟩, .string ⟨#[]⟩, .bool false] 31) = w1 at HZ HB ⊢
  refine (takeText_some s _ hs k (g :: t) h).mono ?_
  rintro e w2 ⟨rfl, b2⟩
  have e1 : ((str (g :: t)).toList == []) = false := by rw [Nums.str_toList]; rfl
  have z0 := at_zero (Nums.str_data (g :: t))
  have j0 : (0 : Int) < ((str (g :: t)).size : Int) := by rw [Nums.str_size, List.length_cons]; omega
  have j2 : (1 : Int) ≤ ((str (g :: t)).size : Int) := by omega
  have hx : (str (g :: t)).extract 1 (str (g :: t)).size = str t := by
    rw [cut_list, List.take_of_length_le (by rw [size_list]; exact Nat.le_refl _), Nums.str_data, List.drop_succ_cons, List.drop_zero]
  have hm : (str (g :: t)).size ≤ 140737488351232 := by rw [Nums.str_size, List.length_cons]; omega
  obtain ⟨G, HG⟩ : ∃ G, Hid (decide (g.toNat = 1) = G) := ⟨_, rfl⟩
  rw [HG.out] at hq
  clear h hs hlen
  generalize str (g :: t) = Y at e1 z0 j0 j2 hx hm ⊢
  obtain ⟨K, HK⟩ : ∃ K, Hid (str k = K) := ⟨_, rfl⟩
  rw [HK.out]
  go_wp2_with fail
  refine (HT.out _).mono ?_
  rintro e w3 ⟨rfl, b3⟩
  have HZ3 : Hid (w3.rowIs w.heap.size 31 3 (fun j => if j = 0 then .string ⟨#[]⟩ else if j = 1 then .string ⟨#[]⟩ else .bool false)) := HZ.out.of_block ((bt b2 b3).block _ HZ.out.lt)
  have HB3 : Hid (Below w.heap.size w w3) := bt HB.out (bt b2 b3)
  have r0 := HZ3.out.cell (i := 0) (by omega)
  have r1 := HZ3.out.cell (i := 1) (by omega)
  have r2 := HZ3.out.cell (i := 2) (by omega)
  have f0 := HZ3.out.frozen 0
  have f1 := HZ3.out.frozen 1
  have f2 := HZ3.out.frozen 2
  clear b2 b3 e1 z0 j0 j2 hx hm hq
  go_wp2_with fail
  try simp only [Exit.inBlock, Exit.then]
  refine bodyPost_ret (ret_take _ rfl ((((HZ3.out.set 0 (.string K)).set 1 (.string v)).set 2 (.bool G)).cell (i := 0) (by omega)) ((((HZ3.out.set 0 (.string K)).set 1 (.string v)).set 2 (.bool G)).cell (i := 1) (by omega)) ((((HZ3.out.set 0 (.string K)).set 1 (.string v)).set 2 (.bool G)).cell (i := 2) (by omega))) rfl ?_
  exact ⟨by rw [HK.out, HG.out]; rfl, ((HB3.out.setCell (Nat.le_refl _) _).setCell (Nat.le_refl _) _).setCell (Nat.le_refl _) _⟩

/-- what takeFirst tells: a pair and what is left, or that there is none -/
def First (s : List UInt8) (w : World) (e : Ending) (w' : World) : Prop := ∃ (p : Pair) (q : ByteArray) (ok : Bool), e = .returned (.tuple #[.agg #[.string p.key, .string p.val, .bool p.gone], .string q, .bool ok]) ∧ p.key.size < 256 ∧ p.val.size < 256 ∧ (ok = true → take1 s = some (p, q.data.toList)) ∧ (ok = false → take1 s = none) ∧ Below w.heap.size w w'
theorem first_any (s : ByteArray) (w : World) (hs : s.size ≤ 140737488351232) : Calls Tryz.prog 119 #[.string s] w fun e w' => First s.data.toList w e w' := by
  cases hk : text1 s.data.toList with
  | none =>
    refine (first_out s w hs (.inl hk)).mono ?_
    rintro e w' ⟨rfl, b⟩
    exact ⟨⟨⟨#[]⟩, ⟨#[]⟩, false⟩, ⟨#[]⟩, false, rfl, by show (0 : Nat) < 256; omega, by show (0 : Nat) < 256; omega, fun h => (by cases h), fun _ => TabOpens.take1_none_key hk, b⟩
  | some y =>
    obtain ⟨k, r⟩ := y
    obtain ⟨hl1, hl2⟩ := TabOpens.text1_shorter hk
    have hks : (str k).size < 256 := by rw [Nums.str_size]; exact hl2
    cases r with
    | nil =>
      refine (first_out s w hs (.inr ⟨k, [], hk, fun g t h => (by cases h)⟩)).mono ?_
      rintro e w' ⟨rfl, b⟩
      exact ⟨⟨⟨#[]⟩, ⟨#[]⟩, false⟩, ⟨#[]⟩, false, rfl, by show (0 : Nat) < 256; omega, by show (0 : Nat) < 256; omega, fun h => (by cases h), fun _ => TabOpens.take1_none_end hk, b⟩
    | cons g t =>
      have hT := TabOpens.take1_of hk
      rw [size_list, List.length_cons] at hl1
      by_cases hg : 1 < g.toNat
      · rw [if_pos hg] at hT
        refine (first_out s w hs (.inr ⟨k, g :: t, hk, fun g' t' h => by cases h; exact hg⟩)).mono ?_
        rintro e w' ⟨rfl, b⟩
        exact ⟨⟨⟨#[]⟩, ⟨#[]⟩, false⟩, ⟨#[]⟩, false, rfl, by show (0 : Nat) < 256; omega, by show (0 : Nat) < 256; omega, fun h => (by cases h), fun _ => hT, b⟩
      · rw [if_neg hg] at hT
        have hst : (str t).size ≤ 140737488351232 := by rw [Nums.str_size]; omega
        cases hv : text1 t with
        | none =>
          rw [hv] at hT
          refine (first_in s w hs k t g hk hg ⟨#[]⟩ ⟨#[]⟩ false fun w1 => takeText_none (str t) w1 (by unfold maxLen; omega) hv).mono ?_
          rintro e w' ⟨rfl, b⟩
          exact ⟨⟨str k, ⟨#[]⟩, decide (g.toNat = 1)⟩, ⟨#[]⟩, false, rfl, hks, by show (0 : Nat) < 256; omega, fun h => (by cases h), fun _ => hT, b⟩
        | some z =>
          obtain ⟨v, q⟩ := z
          rw [hv] at hT
          have hvs := (TabOpens.text1_shorter hv).2
          refine (first_in s w hs k t g hk hg (str v) (str q) true fun w1 => takeText_some (str t) w1 hst v q hv).mono ?_
          rintro e w' ⟨rfl, b⟩
          exact ⟨⟨str k, str v, decide (g.toNat = 1)⟩, str q, true, rfl, hks, by show (str v).size < 256; rw [Nums.str_size]; exact hvs, fun _ => hT, fun h => (by cases h), b⟩

/-! all of them -/
theorem infoP : (Tryz.prog.info? 31).map (fun i => (i.zero, i.size, i.bytes)) = some (some (.agg #[.string ⟨#[]⟩, .string ⟨#[]⟩, .bool false]), 3, 40) := by kernel_rfl
theorem cell_three_new (w : World) (x y z : Value) (t : TypeId) : ∀ j u, [x, y, z][j]? = some u → (w.alloc (.cells #[x, y, z] t)).cell? ((⟨w.heap.size, 0, none⟩ : Addr).add j) = some u := by
  intro j u hj
  match j, hj with
  | 0, hj => simp at hj; subst hj; simp [Addr.add]
  | 1, hj => simp at hj; subst hj; simp [Addr.add]
  | 2, hj => simp at hj; subst hj; simp [Addr.add]
/-- where the reading stands: what is left, and the pairs so far -/
structure So (w : World) (b : List UInt8) (v : Value) (r : ByteArray) (m : List Pair) (wr : World) : Prop where
  own : wr.ownsRow w.heap.size 31 3 v m.length (cells m)
  bel : Below w.heap.size w wr
  left : parse b = (parse r.data.toList).map (m ++ ·)
  right : pairsE m = 0
/-- what takeAll tells -/
def Took (s : List UInt8) (w : World) (e : Ending) (w' : World) : Prop := ∃ v, e = .returned (.tuple #[v, .bool (takesT s).isSome]) ∧ (∀ l, takesT s = some l → w'.ownsRow w.heap.size 31 3 v l.length (cells l)) ∧ Below w.heap.size w w'
def sizeS : Value → Nat | .string s => s.size | _ => 0

set_option maxHeartbeats 4000000 in
set_option maxRecDepth 100000 in
theorem takeAll_any (s : ByteArray) (w : World) (hs : s.size ≤ 8388608) : Calls Tryz.prog 116 #[.string s] w fun e w' => Took s.data.toList w e w' := by
  obtain ⟨i0, hi, hz0, hz1, hz2⟩ := info_parts infoP
  have a26 := aggP
  have z26 := sizeP
  generalize hb : s.data.toList = b
  have HL : Hid (parse b = (parse s.data.toList).map (([] : List Pair) ++ ·)) := by rw [hb]; exact Tabs.parse_start b
  have hs0 : s.size + 3 * ([] : List Pair).length ≤ 8388608 := by simp; omega
  clear hb hs
  go_enter Tryz.func116, Tryz.ntmps116
  go_upto_region 3 with fail
  go_loopw [0, 4, 5, 6, 7, 8] (fun s0 s4 s5 _ _ _ wr => ∃ (m : List Pair) (q : ByteArray), s0 = .string q ∧ s5 = .string (lastKey m) ∧ Hid (So w b s4 q m wr) ∧ q.size + 3 * m.length ≤ 8388608) (fun s0 _ _ _ _ _ _ => sizeS s0)
  case atStart => exact ⟨[], s, rfl, rfl, ⟨World.ownsRow_nil _ _ _ _, Below.refl _ _, HL.out, rfl⟩, hs0⟩
  case round =>
    obtain ⟨m, q, rfl, rfl, HS, hq⟩ := hrel
    by_cases h0 : q.size = 0
    · have e0 := empty_yes h0
      have HV : Hid (takesT b = some m) := by
        have h := HS.out.left
        rw [show q.data.toList = [] from List.length_eq_zero_iff.1 (by rw [size_list]; exact h0)] at h
        exact TabOpens.takes_end h HS.out.right
      go_wp2_with fail
      go_ret2
      refine ⟨u4, by rw [HV.out]; rfl, fun l h => ?_, HS.out.bel⟩
      rw [HV.out] at h
      obtain rfl : m = l := by simpa using h
      exact HS.out.own
    · have e0 := empty_no h0
      have HN : Hid (q.data.toList ≠ []) := fun h => h0 (by rw [← size_list, h]; rfl)
      have hq1 : q.size ≤ 8388608 := by omega
      generalize hK : lastKey m = K
      have HK : Hid (lastKey m = K) := hK
      clear hK h0
      go_wp2_with fail
      refine (first_any q _ (by omega)).mono ?_
      rintro e w2 ⟨⟨x, y, z⟩, r, ok, rfl, hx, hy, hyes, hno, b2⟩
      simp only at hx hy hyes ⊢
      have HB2 : Hid (Below wr.heap.size wr w2) := b2
      clear b2
      cases ok with
      | false =>
        have HV : Hid (takesT b = none) := TabOpens.takes_stop HS.out.left HN.out (hno rfl)
        have HB3 : Hid (Below w.heap.size w (w2.alloc (.cells #[.string x, .string y, .bool z] 31))) := (bt HS.out.bel HB2.out).alloc (bt HS.out.bel HB2.out).size _
        clear hyes hno HN hx hy
        go_wp2_with fail
        go_ret2
        refine ⟨_, by rw [HV.out]; rfl, fun l h => ?_, HB3.out⟩
        rw [HV.out] at h
        cases h
      | true =>
        have HT : Hid (take1 q.data.toList = some (⟨x, y, z⟩, r.data.toList)) := hyes rfl
        have HB3 : Hid (Below w.heap.size w (w2.alloc (.cells #[.string x, .string y, .bool z] 31))) := (bt HS.out.bel HB2.out).alloc (bt HS.out.bel HB2.out).size _
        have HO3 : Hid ((w2.alloc (.cells #[.string x, .string y, .bool z] 31)).ownsRow w.heap.size 31 3 u4 m.length (cells m)) := (owns_kept HS.out.own (Kept.of_below (fun _ => False) HB2.out) fun _ _ q => q).alloc _
        have hR : (w2.alloc (.cells #[.string x, .string y, .bool z] 31)).rowIs w2.heap.size 31 3 (fun j => if j = 0 then .string x else if j = 1 then .string y else .bool z) := World.rowIs_alloc _ _ _ _ (fun j hj => by match j, hj with | 0, _ | 1, _ | 2, _ => rfl | j + 3, h => simp at h; omega)
        have HF : Hid (fault (some K) ⟨x, y, z⟩ = fault (Tabs.last none m) ⟨x, y, z⟩) := by show _ = _; rw [← HK.out]; exact TabOpens.fault_last m _
        have HA : Hid (∀ k, u4.ownBlock = some k → k < w2.heap.size) := fun k hk => Nat.lt_of_lt_of_le (HS.out.own.lt k hk).2 HB2.out.size
        have hsh := Tabs.take1_shorter HT.out
        rw [size_list, size_list] at hsh
        clear hyes hno
        go_upto_region 5 with fail
        generalize w2.alloc (.cells #[.string x, .string y, .bool z] 31) = w3 at HB3 HO3 hR ⊢
        generalize w2.heap.size = gp at hR HA ⊢
        have HR : Hid (w3.rowIs gp 31 3 (fun j => if j = 0 then .string x else if j = 1 then .string y else .bool z)) := hR
        have r0 : w3.cell? ⟨gp, 0, none⟩ = some (.string x) := HR.out.cell (i := 0) (by omega)
        have r1 : w3.cell? ⟨gp, 1, none⟩ = some (.string y) := HR.out.cell (i := 1) (by omega)
        have r2 : w3.cell? ⟨gp, 2, none⟩ = some (.bool z) := HR.out.cell (i := 2) (by omega)
        have cC := WalkTabOne.check_any x y z K
        rw [HF.out] at cC
        clear hR
        by_cases hE : fault (Tabs.last none m) ⟨x, y, z⟩ = 0
        · rw [hE, errv0] at cC
          have HE : Hid (fault (Tabs.last none m) ⟨x, y, z⟩ = 0) := hE
          clear hE
          go_upto_region 7 with (go_at_call 61; refine (cC _ (by unfold maxLen; omega) (by unfold maxLen; omega)).mono ?_; rintro e w4 ⟨rfl, b4⟩)
          have HB4 : Hid (Below w.heap.size w w4) := bt HB3.out b4
          have HO4 : Hid (w4.ownsRow w.heap.size 31 3 u4 m.length (cells m)) := owns_kept HO3.out (Kept.of_below (fun _ => False) b4) fun _ _ q => q
          have HR4 : Hid (w4.rowIs gp 31 3 (fun j => if j = 0 then .string x else if j = 1 then .string y else .bool z)) := HR.out.of_block (b4.block _ HR.out.lt)
          clear r0 r1 r2 b4 cC HO3 HB3 HR
          have s0 : w4.cell? ⟨gp, 0, none⟩ = some (.string x) := HR4.out.cell (i := 0) (by omega)
          have s1 : w4.cell? ⟨gp, 1, none⟩ = some (.string y) := HR4.out.cell (i := 1) (by omega)
          have s2 : w4.cell? ⟨gp, 2, none⟩ = some (.bool z) := HR4.out.cell (i := 2) (by omega)
          go_upto_region 8 with (at_builtin; go_must (refine wpList_append_own _ rfl (.tmp 25) (.tmp 27) 32 rfl w.heap.size 31 i0 (.agg #[.string ⟨#[]⟩, .string ⟨#[]⟩, .bool false]) 3 40 Tryz.underlying32 hi hz0 hz1 hz2 rfl (by decide) _ _ _ rfl (HO4.out.alloc _) ⟨_, 0, none⟩ 1 1 [.string x, .string y, .bool z] rfl rfl (cell_three_new _ _ _ _ _) (fun u hu => by simp at hu; rcases hu with rfl | rfl | rfl <;> rfl) (by unfold maxLen; omega) (by omega) (by have := HB4.out.size; simp; omega) ?_); intro v1 wn o1 g1 z1; clear z1)
          have HRn : Hid (wn.rowIs gp 31 3 (fun j => if j = 0 then .string x else if j = 1 then .string y else .bool z)) := (HR4.out.alloc _).of_block (g1.block gp (HR4.out.alloc _).lt fun e => Nat.lt_irrefl _ (HA.out gp e.symm))
          have HN2 : Hid (So w b v1 r (m ++ [⟨x, y, z⟩]) wn) := by
            refine ⟨?_, (HB4.out.alloc HB4.out.size _).grown g1 (by have := HB4.out.size; simp; omega) (fun k hk => (HO4.out.lt k hk).1), Tabs.parse_step HS.out.left HT.out, ?_⟩
            · rw [cells_append, List.length_append]
              exact o1
            · rw [TabOpens.pairsE_snoc m _ HS.out.right]
              exact HE.out
          have HK2 : Hid (lastKey (m ++ [(⟨x, y, z⟩ : Pair)]) = x) := TabOpens.lastKey_snoc m _
          have hfin : r.size + 3 * (m ++ [(⟨x, y, z⟩ : Pair)]).length ≤ 8388608 := by
            rw [List.length_append, List.length_singleton]
            omega
          have hmes : r.size < q.size := by omega
          have t0 : wn.cell? ⟨gp, 0, none⟩ = some (.string x) := HRn.out.cell (i := 0) (by omega)
          clear o1 g1 HS HT HO4 HB4 HR4 s0 s1 s2 HF HE HN hsh HB2
          go_wp2_with fail
          go_roundw
          case rel => exact ⟨_, _, rfl, by rw [HK2.out], HN2, hfin⟩
          case measure => simpa [sizeS] using hmes
        · rw [errv_pos _ hE] at cC
          have HV : Hid (takesT b = none) := TabOpens.takes_fault HS.out.left HT.out HS.out.right hE
          clear hE HF HS HT HN hsh HK HA
          go_wp2_with (go_at_call 61; refine (cC _ (by unfold maxLen; omega) (by unfold maxLen; omega)).mono ?_; rintro e w4 ⟨rfl, b4⟩)
          go_ret2
          refine ⟨_, by rw [HV.out]; rfl, fun l h => ?_, bt HB3.out b4⟩
          rw [HV.out] at h
          cases h

end Go.Proofs.YtofaegcljcpceagGreatDoor.WalkTabTake
