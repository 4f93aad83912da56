/-
  What the program's entry.takeFirst, Encode and Decode return, for every argument.
-/
import Derived.Test.YtofaegcljcpceagGreatWalkEntOne
namespace Go.Proofs.YtofaegcljcpceagGreat.WalkEntTake
open Go.RowKit
open Lists (Row ints bt)
open Errs (errv errv0 errv_pos)
open Entries (Entry entE take1 takes made dec encV decE decV)
open Nums (str)
open WalkEntOne (aggE sizeE)

set_option maxHeartbeats 1000000 in
theorem encode_any (t : Int) (d : ByteArray) (w : World) (hd : d.size ≤ maxLen) :
    Calls Tryz.prog 7 #[.agg #[.int .i64 t, .string d]] w fun e w' => e = .returned (.tuple #[.string (str (encV (t, d))), errv (entE (t, d))]) ∧ Below w.heap.size w w' := by
  have HB0 : Hid (Below w.heap.size w (w.alloc (.cells #[.int .i64 t, .string d] 35))) := (Below.refl _ _).alloc (Nat.le_refl _) _
  have HC : Hid ((w.alloc (.cells #[.int .i64 t, .string d] 35)).cell? ⟨w.heap.size, 0, none⟩ = some (.int .i64 t) ∧ (w.alloc (.cells #[.int .i64 t, .string d] 35)).cell? ⟨w.heap.size, 1, none⟩ = some (.string d)) := ⟨by simp, by simp⟩
  have a23 := aggE
  have z23 := sizeE
  have HD : Hid (d.size ≤ maxLen) := hd
  clear hd
  go_enter Tryz.func7, Tryz.ntmps7
  go_upto_region 1 with fail
  generalize w.alloc (.cells #[.int .i64 t, .string d] 35) = w1 at HB0 HC ⊢
  have k0 := HC.out.1
  have k1 := HC.out.2
  go_wp2_with fail
  refine (WalkEntOne.check_any t d _ HD.out).mono ?_
  rintro e w2 ⟨rfl, b2⟩
  replace k0 := Lists.cell_below b2 HC.out.1
  replace k1 := Lists.cell_below b2 HC.out.2
  have HB2 : Hid (Below w.heap.size w w2) := bt HB0.out b2
  clear b2 HB0 HC
  by_cases h0 : entE (t, d) = 0
  · have HV : Hid (str (encV (t, d)) = str (Entries.bytes (t, d))) := by rw [show encV (t, d) = Entries.bytes (t, d) from if_pos h0]; exact rfl
    have HE : Hid (entE (t, d) = 0) := h0
    rw [h0, errv0]
    clear h0
    go_wp2_with fail
    refine (WalkEntOne.bytesOf_any t d _ HE.out).mono ?_
    rintro e w3 ⟨rfl, b3⟩
    generalize str (Entries.bytes (t, d)) = X at HV
    go_wp2_with fail
    go_ret2
    exact ⟨by rw [HV.out, HE.out]; rfl, bt HB2.out b3⟩
  · have HV : Hid (str (encV (t, d)) = ⟨#[]⟩ ∧ errv (entE (t, d)) = .iface 63 (.int .i64 (entE (t, d) : Nat))) := ⟨by rw [show encV (t, d) = [] from if_neg h0]; rfl, errv_pos _ h0⟩
    rw [errv_pos _ h0]
    clear h0
    generalize ((entE (t, d) : Nat) : Int) = E at HV
    go_wp2_with fail
    go_ret2
    exact ⟨by rw [HV.out.1, HV.out.2]; rfl, HB2.out⟩

set_option maxHeartbeats 1000000 in
/-- there are not so many bytes -/
theorem take_out (s : ByteArray) (w : World) (hm : s.size ≤ maxLen) (h : s.size < 4 ∨ ∃ h3 : 3 < s.size, s.size < 4 + (s[3]'h3).toNat) :
    Calls Tryz.prog 35 #[.string s] w fun e w' => e = .returned (.tuple #[.agg #[.int .i64 0, .string ⟨#[]⟩], .string ⟨#[]⟩, .bool false]) ∧ Below w.heap.size w w' := by
  have HZ : Hid ((w.alloc (.cells #[.int .i64 0, .string ⟨#[]⟩] 35)).rowIs w.heap.size 35 2 (fun j => if j = 0 then .int .i64 0 else .string ⟨#[]⟩)) := WalkEntOne.zero_row w
  have HB0 : Hid (Below w.heap.size w (w.alloc (.cells #[.int .i64 0, .string ⟨#[]⟩] 35))) := (Below.refl _ _).alloc (Nat.le_refl _) _
  have r0 := HZ.out.cell (i := 0) (by omega)
  have r1 := HZ.out.cell (i := 1) (by omega)
  have f0 := HZ.out.frozen 0
  have f1 := HZ.out.frozen 1
  have a23 := aggE
  have z23 := sizeE
  have hm' : (s.size : Int) ≤ 9223372036854775807 := by unfold maxLen at hm; omega
  clear hm
  rcases h with h | ⟨h3, h⟩
  · have i0 : (s.size : Int) < 4 := by omega
    clear h
    go_enter Tryz.func35, Tryz.ntmps35
    go_upto_region 2 with fail
    generalize w.alloc (.cells #[.int .i64 0, .string ⟨#[]⟩] 35) = w1 at HZ HB0 r0 r1 f0 f1 ⊢
    go_wp2_with fail
    try simp only [Exit.inBlock, Exit.then]
    refine bodyPost_ret (WalkEntOne.ret_take _ rfl (((HZ.out.set 0 (.int .i64 0)).set 1 (.string ⟨#[]⟩)).cell (i := 0) (by omega)) (((HZ.out.set 0 (.int .i64 0)).set 1 (.string ⟨#[]⟩)).cell (i := 1) (by omega))) rfl ?_
    exact ⟨rfl, (HB0.out.setCell (Nat.le_refl _) _).setCell (Nat.le_refl _) _⟩
  · have i0 : ¬ (s.size : Int) < 4 := by omega
    have i2 : (3 : Int) < (s.size : Int) := by omega
    have hl := (s[3]'h3).toNat_lt
    obtain ⟨n, HN⟩ : ∃ n : UInt8, Hid (s[3]'h3 = n) := ⟨_, rfl⟩
    rw [HN.out] at h hl
    have z3 : ∀ h, s[3]'h = n := fun _ => HN.out
    have i1 : (s.size : Int) < 4 + (n.toNat : Int) := by omega
    clear h
    go_enter Tryz.func35, Tryz.ntmps35
    go_upto_region 5 with fail
    generalize w.alloc (.cells #[.int .i64 0, .string ⟨#[]⟩] 35) = w1 at HZ HB0 r0 r1 f0 f1 ⊢
    go_wp2_with fail
    try simp only [Exit.inBlock, Exit.then]
    refine bodyPost_ret (WalkEntOne.ret_take _ rfl (((HZ.out.set 0 (.int .i64 0)).set 1 (.string ⟨#[]⟩)).cell (i := 0) (by omega)) (((HZ.out.set 0 (.int .i64 0)).set 1 (.string ⟨#[]⟩)).cell (i := 1) (by omega))) rfl ?_
    exact ⟨rfl, (HB0.out.setCell (Nat.le_refl _) _).setCell (Nat.le_refl _) _⟩

theorem str_four {s : ByteArray} {a b c n : UInt8} {r : List UInt8} (h : s.data.toList = a :: b :: c :: n :: r) : s = str (a :: b :: c :: n :: r) := by rw [← h]; rfl
theorem take_yes (s : ByteArray) (w : World) (hs : s.size ≤ 140737488351232) (x : Entry) (r : List UInt8) (h : take1 s.data.toList = some (x, r)) :
    Calls Tryz.prog 35 #[.string s] w fun e w' => e = .returned (.tuple #[.agg #[.int .i64 x.1, .string x.2], .string (str r), .bool true]) ∧ Below w.heap.size w w' := by
  by_cases hl : s.data.toList.length < 4
  · rw [Entries.take1_short _ hl] at h; cases h
  · obtain ⟨a, b, c, n, q, hq⟩ := Entries.four_of _ hl
    rw [hq, Entries.take1_four] at h
    have hlen : s.size = q.length + 4 := by rw [str_four hq, Nums.str_size]; simp
    by_cases hc : n.toNat ≤ q.length ∧ entE (made a b c (q.take n.toNat)) = 0
    · rw [if_pos hc] at h
      simp only [Option.some.injEq, Prod.mk.injEq] at h
      have c0 := WalkEntOne.take_in a b c n q s w (str_four hq) hc.1 (by omega)
      rw [h.1, h.2, decide_eq_true (by rw [← h.1]; exact hc.2)] at c0
      exact c0
    · rw [if_neg hc] at h; cases h
theorem take_no (s : ByteArray) (w : World) (hs : s.size ≤ 140737488351232) (h : take1 s.data.toList = none) :
    Calls Tryz.prog 35 #[.string s] w fun e w' => ∃ t d q, e = .returned (.tuple #[.agg #[.int .i64 t, .string d], .string q, .bool false]) ∧ Below w.heap.size w w' := by
  have hsl : s.data.toList.length = s.size := by simp
  by_cases hl : s.data.toList.length < 4
  · refine (take_out s w (by unfold maxLen; omega) (.inl (by omega))).mono ?_
    rintro e w' ⟨rfl, b⟩
    exact ⟨_, _, _, rfl, b⟩
  · obtain ⟨a, b, c, n, q, hq⟩ := Entries.four_of _ hl
    have hlen : s.size = q.length + 4 := by rw [str_four hq, Nums.str_size]; simp
    rw [hq, Entries.take1_four] at h
    by_cases hn : n.toNat ≤ q.length
    · refine (WalkEntOne.take_in a b c n q s w (str_four hq) hn (by omega)).mono ?_
      rintro e w' ⟨rfl, bb⟩
      by_cases hE : entE (made a b c (q.take n.toNat)) = 0
      · rw [if_pos ⟨hn, hE⟩] at h; cases h
      · rw [decide_eq_false hE]
        exact ⟨_, _, _, rfl, bb⟩
    · have h3 : 3 < s.size := by omega
      have z3 : s[3]'h3 = n := by
        have hs' := str_four hq
        subst hs'
        rfl
      refine (take_out s w (by unfold maxLen; omega) (.inr ⟨h3, by rw [z3]; omega⟩)).mono ?_
      rintro e w' ⟨rfl, b⟩
      exact ⟨_, _, _, rfl, b⟩

theorem ret_pair {w : World} {g : Nat} {x y : Value} (tmps : Array Value) (hp : tmps.getD 2 undef = .pointer (some ⟨g, 0, none⟩)) (h0 : w.cell? ⟨g, 0, none⟩ = some x) (h1 : w.cell? ⟨g, 1, none⟩ = some y) :
    (results Tryz.f13 tmps).run Tryz.prog w = .ok (.tuple #[.agg #[x, y], tmps.getD 3 undef]) w := by
  have hl := run_loadVar_mid (P := Tryz.prog) w g 0 35 [x, y] _ (fun j v hv => by match j, hv with | 0, hv => simp at hv; subst hv; simpa using h0 | 1, hv => simp at hv; subst hv; simpa using h1) Tryz.underlying35 rfl (by kernel_rfl)
  rw [results_cell_tmp rfl, hp]
  simp [asAddr, hl, Result.andThen]
/-- two variables for entries, one of them new -/
theorem two_rows {w w1 w2 : World} {t : Int} {d : ByteArray} (hz : w1.rowIs w.heap.size 35 2 (fun j => if j = 0 then .int .i64 0 else .string ⟨#[]⟩)) (b1 : Below w.heap.size w w1) (b2 : Below w1.heap.size w1 w2) :
    (w2.alloc (.cells #[.int .i64 t, .string d] 35)).rowIs w.heap.size 35 2 (fun j => if j = 0 then .int .i64 0 else .string ⟨#[]⟩) ∧ Below w.heap.size w (w2.alloc (.cells #[.int .i64 t, .string d] 35)) :=
  ⟨(hz.of_block (b2.block _ hz.lt)).alloc _, (bt b1 b2).alloc (bt b1 b2).size _⟩

set_option maxHeartbeats 1000000 in
theorem decode_any (s : ByteArray) (w : World) (hs : s.size ≤ 140737488351232) :
    Calls Tryz.prog 13 #[.string s] w fun e w' => e = .returned (.tuple #[.agg #[.int .i64 (decV s.data.toList).1, .string (decV s.data.toList).2], errv (decE s.data.toList)]) ∧ Below w.heap.size w w' := by
  have HZ : Hid ((w.alloc (.cells #[.int .i64 0, .string ⟨#[]⟩] 35)).rowIs w.heap.size 35 2 (fun j => if j = 0 then .int .i64 0 else .string ⟨#[]⟩)) := WalkEntOne.zero_row w
  have HB0 : Hid (Below w.heap.size w (w.alloc (.cells #[.int .i64 0, .string ⟨#[]⟩] 35))) := (Below.refl _ _).alloc (Nat.le_refl _) _
  have a23 := aggE
  have z23 := sizeE
  have HS : Hid (s.size ≤ 140737488351232) := hs
  clear hs
  go_enter Tryz.func13, Tryz.ntmps13
  go_wp2_with fail
  generalize w.alloc (.cells #[.int .i64 0, .string ⟨#[]⟩] 35) = w1 at HZ HB0 ⊢
  cases hT : take1 s.data.toList with
  | none =>
    have hd : dec s.data.toList = none := by unfold dec; rw [hT]; rfl
    have HD : Hid (decE s.data.toList = 2 ∧ decV s.data.toList = (0, ⟨#[]⟩)) := Entries.dec_not hd
    refine (take_no s _ HS.out hT).mono ?_
    rintro e w2 ⟨t, d, q, rfl, b2⟩
    obtain ⟨hz3, hb3⟩ := two_rows (t := t) (d := d) HZ.out HB0.out b2
    have HZ3 : Hid ((w2.alloc (.cells #[.int .i64 t, .string d] 35)).rowIs w.heap.size 35 2 (fun j => if j = 0 then .int .i64 0 else .string ⟨#[]⟩)) := hz3
    have HB3 : Hid (Below w.heap.size w (w2.alloc (.cells #[.int .i64 t, .string d] 35))) := hb3
    clear hd hT b2 hz3 hb3
    go_upto_region 3 with fail
    generalize w2.alloc (.cells #[.int .i64 t, .string d] 35) = w3 at HZ3 HB3 ⊢
    have r0 := HZ3.out.cell (i := 0) (by omega)
    have r1 := HZ3.out.cell (i := 1) (by omega)
    have f0 := HZ3.out.frozen 0
    have f1 := HZ3.out.frozen 1
    go_wp2_with fail
    try simp only [Exit.inBlock, Exit.then]
    refine bodyPost_ret (ret_pair _ rfl (((HZ3.out.set 0 (.int .i64 0)).set 1 (.string ⟨#[]⟩)).cell (i := 0) (by omega)) (((HZ3.out.set 0 (.int .i64 0)).set 1 (.string ⟨#[]⟩)).cell (i := 1) (by omega))) rfl ?_
    exact ⟨by rw [HD.out.1, HD.out.2]; rfl, (HB3.out.setCell (Nat.le_refl _) _).setCell (Nat.le_refl _) _⟩
  | some y =>
    obtain ⟨⟨t, d⟩, r⟩ := y
    refine (take_yes s _ HS.out _ _ hT).mono ?_
    rintro e w2 ⟨rfl, b2⟩
    simp only
    obtain ⟨hz3, hb3⟩ := two_rows (t := t) (d := d) HZ.out HB0.out b2
    have HZ3 : Hid ((w2.alloc (.cells #[.int .i64 t, .string d] 35)).rowIs w.heap.size 35 2 (fun j => if j = 0 then .int .i64 0 else .string ⟨#[]⟩)) := hz3
    have HB3 : Hid (Below w.heap.size w (w2.alloc (.cells #[.int .i64 t, .string d] 35))) := hb3
    have n0 : (w2.alloc (.cells #[.int .i64 t, .string d] 35)).cell? ⟨w2.heap.size, 0, none⟩ = some (.int .i64 t) := by simp
    have n1 : (w2.alloc (.cells #[.int .i64 t, .string d] 35)).cell? ⟨w2.heap.size, 1, none⟩ = some (.string d) := by simp
    clear b2 hz3 hb3
    cases r with
    | nil =>
      have hd : dec s.data.toList = some (t, d) := by unfold dec; rw [hT]; rfl
      have HD : Hid (decE s.data.toList = 0 ∧ decV s.data.toList = (t, d)) := Entries.dec_is hd
      have hne : ((str []).toList == []) = true := by rw [Nums.str_toList]; rfl
      generalize str [] = q at hne
      clear hd hT
      go_upto_region 4 with fail
      generalize w2.alloc (.cells #[.int .i64 t, .string d] 35) = w3 at HZ3 HB3 n0 n1 ⊢
      have r0 := HZ3.out.cell (i := 0) (by omega)
      have r1 := HZ3.out.cell (i := 1) (by omega)
      have f0 := HZ3.out.frozen 0
      have f1 := HZ3.out.frozen 1
      go_wp2_with fail
      try simp only [Exit.inBlock, Exit.then]
      refine bodyPost_ret (ret_pair _ rfl (((HZ3.out.set 0 (.int .i64 t)).set 1 (.string d)).cell (i := 0) (by omega)) (((HZ3.out.set 0 (.int .i64 t)).set 1 (.string d)).cell (i := 1) (by omega))) rfl ?_
      exact ⟨by rw [HD.out.1, HD.out.2]; rfl, (HB3.out.setCell (Nat.le_refl _) _).setCell (Nat.le_refl _) _⟩
    | cons x y =>
      have hd : dec s.data.toList = none := by unfold dec; rw [hT]; rfl
      have HD : Hid (decE s.data.toList = 2 ∧ decV s.data.toList = (0, ⟨#[]⟩)) := Entries.dec_not hd
      have hne : ((str (x :: y)).toList == []) = false := by rw [Nums.str_toList]; rfl
      generalize str (x :: y) = q at hne
      clear hd hT n0 n1
      go_upto_region 3 with fail
      generalize w2.alloc (.cells #[.int .i64 t, .string d] 35) = w3 at HZ3 HB3 ⊢
      have r0 := HZ3.out.cell (i := 0) (by omega)
      have r1 := HZ3.out.cell (i := 1) (by omega)
      have f0 := HZ3.out.frozen 0
      have f1 := HZ3.out.frozen 1
      go_wp2_with fail
      try simp only [Exit.inBlock, Exit.then]
      refine bodyPost_ret (ret_pair _ rfl (((HZ3.out.set 0 (.int .i64 0)).set 1 (.string ⟨#[]⟩)).cell (i := 0) (by omega)) (((HZ3.out.set 0 (.int .i64 0)).set 1 (.string ⟨#[]⟩)).cell (i := 1) (by omega))) rfl ?_
      exact ⟨by rw [HD.out.1, HD.out.2]; rfl, (HB3.out.setCell (Nat.le_refl _) _).setCell (Nat.le_refl _) _⟩

end Go.Proofs.YtofaegcljcpceagGreat.WalkEntTake
