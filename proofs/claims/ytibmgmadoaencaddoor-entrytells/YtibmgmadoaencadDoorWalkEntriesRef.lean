/-
  What the document's own answers (package witref1) return on entries: Decode, Entries, EntryLeafs, Unpack.
-/
import Derived.Test.YtibmgmadoaencadDoorWalkEntryRef
import Derived.Laws.ResultCell
namespace Go.Proofs.YtibmgmadoaencadDoor.WalkEntriesRef
open Go.RowKit
open Lists (Row ints bt)
open Keeps (Kept owns_kept owns_row owns_base)
open Wides (Wide)
open Entries (Entry entE take1 takes made dec unpack entsE firstE)
open EntRows (cells cells_append)
open Nums (str)
open WalkEntryRef (aggE sizeE zero_row)

theorem str_four {s : ByteArray} {a b c n : UInt8} {r : List UInt8} (h : s.data.toList = a :: b :: c :: n :: r) : s = str (a :: b :: c :: n :: r) := by rw [← h]; rfl
theorem take_yes (s : ByteArray) (w : World) (hs : s.size ≤ 140737488351232) (x : Entry) (r : List UInt8) (h : take1 s.data.toList = some (x, r)) :
    Calls Tryd.prog 38 #[.string s] w fun e w' => e = .returned (.tuple #[.agg #[.int .i64 x.1, .string x.2], .string (str r), .bool true]) ∧ Below w.heap.size w w' := by
  by_cases hl : s.data.toList.length < 4
  · rw [Entries.take1_short _ hl] at h; cases h
  · obtain ⟨a, b, c, n, q, hq⟩ := Entries.four_of _ hl
    rw [hq, Entries.take1_four] at h
    have hlen : s.size = q.length + 4 := by rw [str_four hq, Nums.str_size]; simp
    by_cases hc : n.toNat ≤ q.length ∧ entE (made a b c (q.take n.toNat)) = 0
    · rw [if_pos hc] at h
      simp only [Option.some.injEq, Prod.mk.injEq] at h
      have c0 := WalkEntryRef.take_in a b c n q s w (str_four hq) hc.1 (by omega)
      rw [h.1, h.2, decide_eq_true (by rw [← h.1]; exact hc.2)] at c0
      exact c0
    · rw [if_neg hc] at h; cases h
theorem take_no (s : ByteArray) (w : World) (hs : s.size ≤ 140737488351232) (h : take1 s.data.toList = none) :
    Calls Tryd.prog 38 #[.string s] w fun e w' => ∃ t d q, e = .returned (.tuple #[.agg #[.int .i64 t, .string d], .string q, .bool false]) ∧ Below w.heap.size w w' := by
  have hsl : s.data.toList.length = s.size := by simp
  by_cases hl : s.data.toList.length < 4
  · refine (WalkEntryRef.take_out s w (by unfold maxLen; omega) (.inl (by omega))).mono ?_
    rintro e w' ⟨rfl, b⟩
    exact ⟨_, _, _, rfl, b⟩
  · obtain ⟨a, b, c, n, q, hq⟩ := Entries.four_of _ hl
    have hlen : s.size = q.length + 4 := by rw [str_four hq, Nums.str_size]; simp
    rw [hq, Entries.take1_four] at h
    by_cases hn : n.toNat ≤ q.length
    · refine (WalkEntryRef.take_in a b c n q s w (str_four hq) hn (by omega)).mono ?_
      rintro e w' ⟨rfl, bb⟩
      by_cases hE : entE (made a b c (q.take n.toNat)) = 0
      · rw [if_pos ⟨hn, hE⟩] at h; cases h
      · rw [decide_eq_false hE]
        exact ⟨_, _, _, rfl, bb⟩
    · have h3 : 3 < s.size := by omega
      have z3 : s[3]'h3 = n := by
        have hs' := str_four hq
        subst hs'
        rfl
      refine (WalkEntryRef.take_out s w (by unfold maxLen; omega) (.inr ⟨h3, by rw [z3]; omega⟩)).mono ?_
      rintro e w' ⟨rfl, b⟩
      exact ⟨_, _, _, rfl, b⟩
theorem ret_pair {w : World} {g : Nat} {x y : Value} (tmps : Array Value) (hp : tmps.getD 2 undef = .pointer (some ⟨g, 0, none⟩)) (h0 : w.cell? ⟨g, 0, none⟩ = some x) (h1 : w.cell? ⟨g, 1, none⟩ = some y) :
    (results Tryd.f13 tmps).run Tryd.prog w = .ok (.tuple #[.agg #[x, y], tmps.getD 3 undef]) w := by
  have hl := run_loadVar_mid (P := Tryd.prog) w g 0 33 [x, y] _ (fun j v hv => by match j, hv with | 0, hv => simp at hv; subst hv; simpa using h0 | 1, hv => simp at hv; subst hv; simpa using h1) Tryd.underlying33 rfl (by kernel_rfl)
  rw [results_cell_tmp rfl, hp]
  simp [asAddr, hl, Result.andThen]

set_option maxHeartbeats 1000000 in
theorem decode_no (s : ByteArray) (w : World) (hs : s.size ≤ 140737488351232) (h : dec s.data.toList = none) :
    Calls Tryd.prog 13 #[.string s] w fun e w' => e = .returned (.tuple #[.agg #[.int .i64 0, .string ⟨#[]⟩], .bool false]) ∧ Below w.heap.size w w' := by
  have HZ : Hid ((w.alloc (.cells #[.int .i64 0, .string ⟨#[]⟩] 33)).rowIs w.heap.size 33 2 (fun j => if j = 0 then .int .i64 0 else .string ⟨#[]⟩)) := zero_row w
  have HB0 : Hid (Below w.heap.size w (w.alloc (.cells #[.int .i64 0, .string ⟨#[]⟩] 33))) := (Below.refl _ _).alloc (Nat.le_refl _) _
  have a23 := aggE
  have z23 := sizeE
  go_enter Tryd.func13, Tryd.ntmps13
  go_wp2_with fail
  generalize w.alloc (.cells #[.int .i64 0, .string ⟨#[]⟩] 33) = w1 at HZ HB0 ⊢
  cases hT : take1 s.data.toList with
  | none =>
    refine (take_no s _ hs hT).mono ?_
    rintro e w2 ⟨t, d, q, rfl, b2⟩
    have HZ2 : Hid (w2.rowIs w.heap.size 33 2 (fun j => if j = 0 then .int .i64 0 else .string ⟨#[]⟩)) := HZ.out.of_block (b2.block _ HZ.out.lt)
    have HB2 : Hid (Below w.heap.size w w2) := bt HB0.out b2
    have HZ3 : Hid ((w2.alloc (.cells #[.int .i64 t, .string d] 33)).rowIs w.heap.size 33 2 (fun j => if j = 0 then .int .i64 0 else .string ⟨#[]⟩)) := HZ2.out.alloc _
    have HB3 : Hid (Below w.heap.size w (w2.alloc (.cells #[.int .i64 t, .string d] 33))) := HB2.out.alloc HB2.out.size _
    clear h hT b2
    go_upto_region 3 with fail
    generalize w2.alloc (.cells #[.int .i64 t, .string d] 33) = w3 at HZ3 HB3 ⊢
    have r0 := HZ3.out.cell (i := 0) (by omega)
    have r1 := HZ3.out.cell (i := 1) (by omega)
    have f0 := HZ3.out.frozen 0
    have f1 := HZ3.out.frozen 1
    go_wp2_with fail
    try simp only [Exit.inBlock, Exit.then]
    refine bodyPost_ret (ret_pair _ rfl (((HZ3.out.set 0 (.int .i64 0)).set 1 (.string ⟨#[]⟩)).cell (i := 0) (by omega)) (((HZ3.out.set 0 (.int .i64 0)).set 1 (.string ⟨#[]⟩)).cell (i := 1) (by omega))) rfl ?_
    exact ⟨rfl, (HB3.out.setCell (Nat.le_refl _) _).setCell (Nat.le_refl _) _⟩
  | some y =>
    obtain ⟨⟨t, d⟩, r⟩ := y
    refine (take_yes s _ hs _ _ hT).mono ?_
    rintro e w2 ⟨rfl, b2⟩
    simp only
    have hr : r ≠ [] := by
      intro hr
      subst hr
      unfold dec at h
      rw [hT] at h
      cases h
    have hne : ((str r).toList == []) = false := by
      rw [Nums.str_toList, beq_eq_false_iff_ne]
      exact hr
    have HZ2 : Hid (w2.rowIs w.heap.size 33 2 (fun j => if j = 0 then .int .i64 0 else .string ⟨#[]⟩)) := HZ.out.of_block (b2.block _ HZ.out.lt)
    have HB2 : Hid (Below w.heap.size w w2) := bt HB0.out b2
    have HZ3 : Hid ((w2.alloc (.cells #[.int .i64 t, .string d] 33)).rowIs w.heap.size 33 2 (fun j => if j = 0 then .int .i64 0 else .string ⟨#[]⟩)) := HZ2.out.alloc _
    have HB3 : Hid (Below w.heap.size w (w2.alloc (.cells #[.int .i64 t, .string d] 33))) := HB2.out.alloc HB2.out.size _
    generalize str r = q at hne
    clear h hT b2 hr
    go_upto_region 3 with fail
    generalize w2.alloc (.cells #[.int .i64 t, .string d] 33) = w3 at HZ3 HB3 ⊢
    have r0 := HZ3.out.cell (i := 0) (by omega)
    have r1 := HZ3.out.cell (i := 1) (by omega)
    have f0 := HZ3.out.frozen 0
    have f1 := HZ3.out.frozen 1
    go_wp2_with fail
    try simp only [Exit.inBlock, Exit.then]
    refine bodyPost_ret (ret_pair _ rfl (((HZ3.out.set 0 (.int .i64 0)).set 1 (.string ⟨#[]⟩)).cell (i := 0) (by omega)) (((HZ3.out.set 0 (.int .i64 0)).set 1 (.string ⟨#[]⟩)).cell (i := 1) (by omega))) rfl ?_
    exact ⟨rfl, (HB3.out.setCell (Nat.le_refl _) _).setCell (Nat.le_refl _) _⟩

set_option maxHeartbeats 1000000 in
theorem decode_yes (s : ByteArray) (w : World) (hs : s.size ≤ 140737488351232) (x : Entry) (h : dec s.data.toList = some x) :
    Calls Tryd.prog 13 #[.string s] w fun e w' => e = .returned (.tuple #[.agg #[.int .i64 x.1, .string x.2], .bool true]) ∧ Below w.heap.size w w' := by
  have HZ : Hid ((w.alloc (.cells #[.int .i64 0, .string ⟨#[]⟩] 33)).rowIs w.heap.size 33 2 (fun j => if j = 0 then .int .i64 0 else .string ⟨#[]⟩)) := zero_row w
  have HB0 : Hid (Below w.heap.size w (w.alloc (.cells #[.int .i64 0, .string ⟨#[]⟩] 33))) := (Below.refl _ _).alloc (Nat.le_refl _) _
  have cT := fun w1 => take_yes s w1 hs _ _ (Entries.whole_some h)
  obtain ⟨t, d⟩ := x
  simp only at cT ⊢
  have a23 := aggE
  have z23 := sizeE
  clear h
  go_enter Tryd.func13, Tryd.ntmps13
  go_wp2_with fail
  generalize w.alloc (.cells #[.int .i64 0, .string ⟨#[]⟩] 33) = w1 at HZ HB0 ⊢
  refine (cT _).mono ?_
  rintro e w2 ⟨rfl, b2⟩
  have HZ2 : Hid (w2.rowIs w.heap.size 33 2 (fun j => if j = 0 then .int .i64 0 else .string ⟨#[]⟩)) := HZ.out.of_block (b2.block _ HZ.out.lt)
  have HB2 : Hid (Below w.heap.size w w2) := bt HB0.out b2
  have HZ3 : Hid ((w2.alloc (.cells #[.int .i64 t, .string d] 33)).rowIs w.heap.size 33 2 (fun j => if j = 0 then .int .i64 0 else .string ⟨#[]⟩)) := HZ2.out.alloc _
  have HB3 : Hid (Below w.heap.size w (w2.alloc (.cells #[.int .i64 t, .string d] 33))) := HB2.out.alloc HB2.out.size _
  have n0 : (w2.alloc (.cells #[.int .i64 t, .string d] 33)).cell? ⟨w2.heap.size, 0, none⟩ = some (.int .i64 t) := by simp
  have n1 : (w2.alloc (.cells #[.int .i64 t, .string d] 33)).cell? ⟨w2.heap.size, 1, none⟩ = some (.string d) := by simp
  have hne : ((str []).toList == []) = true := by rw [Nums.str_toList]; rfl
  generalize str [] = q at hne
  clear b2 cT
  go_upto_region 4 with fail
  generalize w2.alloc (.cells #[.int .i64 t, .string d] 33) = w3 at HZ3 HB3 n0 n1 ⊢
  have r0 := HZ3.out.cell (i := 0) (by omega)
  have r1 := HZ3.out.cell (i := 1) (by omega)
  have f0 := HZ3.out.frozen 0
  have f1 := HZ3.out.frozen 1
  go_wp2_with fail
  try simp only [Exit.inBlock, Exit.then]
  refine bodyPost_ret (ret_pair _ rfl (((HZ3.out.set 0 (.int .i64 t)).set 1 (.string d)).cell (i := 0) (by omega)) (((HZ3.out.set 0 (.int .i64 t)).set 1 (.string d)).cell (i := 1) (by omega))) rfl ?_
  exact ⟨rfl, (HB3.out.setCell (Nat.le_refl _) _).setCell (Nat.le_refl _) _⟩

set_option maxHeartbeats 1000000 in
theorem entries_any (l : List Entry) (a : Option Addr) (n cap : Nat) (w : World) (hr : Wide 2 w a n cap (cells l)) (hz : ∀ e ∈ l, e.2.size ≤ maxLen) :
    Calls Tryd.prog 15 #[.slice a n cap] w fun e w' => e = .returned (.int .i64 (entsE l : Nat)) ∧ Below w.heap.size w w' := by
  have hln := EntRows.len_of hr
  have HR : Hid (Wide 2 w a n cap (cells l)) := hr
  have HZ : Hid (∀ e ∈ l, e.2.size ≤ maxLen) := hz
  clear hr hz
  have a23 := aggE
  have z23 := sizeE
  by_cases hn : 200 < n
  · have i0 : (200 : Int) < (n : Int) := by omega
    have HV : Hid (entsE l = 4) := if_pos (by omega)
    go_enter Tryd.func15, Tryd.ntmps15
    go_wp2_with fail
    go_ret
    exact ⟨by rw [HV.out]; rfl, Below.refl _ _⟩
  · have i0 : ¬ (200 : Int) < (n : Int) := by omega
    have HV : Hid (entsE l = firstE l) := if_neg (by omega)
    go_enter Tryd.func15, Tryd.ntmps15
    go_wp2_with fail
    go_loopw [3] (fun i wr => ∃ k : Nat, k ≤ n ∧ i = .int .i64 (k : Int) ∧ Hid (∀ e ∈ l.take k, entE e = 0) ∧ Below w.heap.size w wr) (fun i _ => n - (intOf i).toNat)
    case atStart => exact ⟨0, Nat.zero_le _, rfl, (by intro e he; simp at he), Below.refl _ _⟩
    case round =>
      obtain ⟨k, hk, rfl, HA, hb⟩ := hrel
      by_cases hlt : k < n
      · have i1 : (k : Int) < (n : Int) := by omega
        obtain ⟨b1, off1, rfl, _⟩ := (HR.out.below hb).2.2 (by omega)
        obtain ⟨p0, p1⟩ := EntRows.at_two (HR.out.below hb) k (by omega)
        have HT : Hid (l.take (k + 1) = l.take k ++ [l[k]'(by omega)]) := List.take_succ_eq_append_getElem (by omega)
        have HN : Hid (entE (l[k]'(by omega)) ≠ 0 → firstE l = entE (l[k]'(by omega))) := fun h => Entries.firstE_at (by omega) HA.out h
        have HM : Hid ((l[k]'(by omega)).2.size ≤ maxLen) := HZ.out _ (List.getElem_mem _)
        generalize l[k]'(by omega) = x at p0 p1 HT HN HM
        obtain ⟨t, d⟩ := x
        simp only at p0 p1
        have HB : Hid (Below w.heap.size w wr) := hb
        clear hb
        go_wp2_with fail
        refine (WalkEntryRef.entry_any t d _ HM.out).mono ?_
        rintro e w2 ⟨rfl, b2⟩
        by_cases h0 : entE (t, d) = 0
        · have hx : ((((entE (t, d) : Nat)) : Int) != 0) = false := by rw [h0]; rfl
          have HA2 : Hid (∀ e ∈ l.take (k + 1), entE e = 0) := by
            rw [HT.out]
            intro e he
            rcases List.mem_append.1 he with he | he
            · exact HA.out e he
            · rw [List.mem_singleton.1 he]; exact h0
          generalize entE (t, d) = E at hx
          clear h0
          go_wp2_with fail
          go_roundw
          case rel => exact ⟨k + 1, by omega, by go_num, HA2, bt HB.out b2⟩
          case measure => simp [intOf]; omega
        · have hx : ((((entE (t, d) : Nat)) : Int) != 0) = true := by rw [bne_iff_ne]; omega
          have HF : Hid (entsE l = entE (t, d)) := HV.out.trans (HN.out h0)
          clear h0
          generalize entE (t, d) = E at hx HF
          go_wp2_with fail
          go_ret
          exact ⟨by rw [HF.out]; rfl, bt HB.out b2⟩
      · have i1 : ¬ (k : Int) < (n : Int) := by omega
        have HF : Hid (entsE l = 0) := by
          have h := HA.out
          rw [List.take_of_length_le (by omega)] at h
          exact HV.out.trans (Entries.firstE_zero.2 h)
        go_wp2_with fail
        go_ret
        exact ⟨by rw [HF.out]; rfl, hb⟩

end Go.Proofs.YtibmgmadoaencadDoor.WalkEntriesRef
