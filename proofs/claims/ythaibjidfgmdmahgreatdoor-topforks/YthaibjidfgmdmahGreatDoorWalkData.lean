/-
  What the program's package tree returns on data: tooMuch, rootOfData, the parts of clash; and slices.Equal of texts.
-/
import Derived.Test.YthaibjidfgmdmahGreatDoorWalkCheck
import Derived.BigQuiet
namespace Go.Proofs.YthaibjidfgmdmahGreatDoor.WalkData
open Go.RowKit
open Lists (Row ints strs)
open Go.Sort (grow)

theorem tooLong_any (s : ByteArray) (w : World) :
    Calls Tryz.prog 93 #[.string s] w fun e w' => e = .returned (.bool (!decide (s.size ≤ 200))) ∧ w' = w := by
  by_cases h : s.size ≤ 200
  · have h' : ¬ (200 : Int) < (s.size : Int) := by omega
    have H : Hid (s.size ≤ 200) := h
    clear h
    go_enter Tryz.func93, Tryz.ntmps93
    go_wp2
    go_ret
    exact ⟨by rw [decide_eq_true H.out]; rfl, rfl⟩
  · have h' : (200 : Int) < (s.size : Int) := by omega
    have H : Hid (¬ s.size ≤ 200) := h
    clear h
    go_enter Tryz.func93, Tryz.ntmps93
    go_wp2
    go_ret
    exact ⟨by rw [decide_eq_false H.out]; rfl, rfl⟩

set_option maxHeartbeats 1000000 in
theorem indexLong_any (l : List ByteArray) (a : Option Addr) (n cap : Nat) (w : World) (hn : n ≤ 200) (hr : Row w a n cap (strs l)) :
    Calls Tryz.prog 121 #[.slice a n cap, .func (.func 93) #[] #[]] w fun e w' =>
      ∃ i : Int, e = .returned (.int .i64 i) ∧ (Trees.shortOk l = true → i = -1) ∧ (Trees.shortOk l = false → 0 ≤ i) ∧ w' = w := by
  have hln : l.length = n := by rw [← hr.1, Lists.strs_length]
  have HR : Hid (Row w a n cap (strs l)) := hr
  clear hr
  go_enter Tryz.func121, Tryz.ntmps121
  go_wp2_with fail
  go_loop [8] (fun i => ∃ k : Nat, k ≤ n ∧ i = .int .i64 k ∧ Hid (Trees.shortOk (l.take k) = true)) (fun i => n - (intOf i).toNat)
  case atStart => exact ⟨0, Nat.zero_le _, rfl, rfl⟩
  case round =>
    obtain ⟨k, hk, rfl, HA⟩ := hrel
    by_cases hlt : k < n
    · obtain ⟨b, off, rfl, hc⟩ := HR.out.2.2 (by omega)
      have hcell := hc k _ (Lists.strs_at (by omega))
      clear hc
      have HS : Hid (Trees.shortOk (l.take (k + 1)) = (Trees.shortOk (l.take k) && decide ((l.getD k ByteArray.empty).size ≤ 200))) := Trees.shortOk_snoc l k (by omega)
      have HN : Hid (decide ((l.getD k ByteArray.empty).size ≤ 200) = false → Trees.shortOk l = false) := Trees.shortOk_no l k (by omega)
      generalize l.getD k ByteArray.empty = x at hcell HS HN
      cases hx : decide (x.size ≤ 200)
      · have hx' : Hid (decide (x.size ≤ 200) = false) := hx
        have hb : (!decide (x.size ≤ 200)) = true := by rw [hx]; rfl
        clear hx
        go_wp2_with (go_at_call 93; refine (tooLong_any _ _).mono ?_; rintro e w' ⟨rfl, rfl⟩; rw [hb])
        go_ret
        exact ⟨_, rfl, fun h => (by rw [HN.out hx'.out] at h; cases h), fun _ => by omega, rfl⟩
      · have hx' : Hid (decide (x.size ≤ 200) = true) := hx
        have hb : (!decide (x.size ≤ 200)) = false := by rw [hx]; rfl
        clear hx
        go_wp2_with (go_at_call 93; refine (tooLong_any _ _).mono ?_; rintro e w' ⟨rfl, rfl⟩; rw [hb])
        go_round
        case rel => exact ⟨k + 1, by omega, by go_num, by rw [HS.out, HA.out, hx'.out]; rfl⟩
        case measure => simp [intOf]; omega
    · go_wp2_with fail
      go_ret
      exact ⟨_, rfl, fun _ => rfl, fun h => (by rw [← hln] at hlt; have := HA.out; rw [List.take_of_length_le (by omega), h] at this; cases this), rfl⟩

theorem contains_any (l : List ByteArray) (a : Option Addr) (n cap : Nat) (w : World) (hn : n ≤ 200) (hr : Row w a n cap (strs l)) :
    Calls Tryz.prog 92 #[.slice a n cap, .func (.func 93) #[] #[]] w fun e w' => e = .returned (.bool (!Trees.shortOk l)) ∧ w' = w := by
  have HR : Hid (Row w a n cap (strs l)) := hr
  clear hr
  go_enter Tryz.func92, Tryz.ntmps92
  go_wp2_with fail
  refine (indexLong_any l a n cap w hn HR.out).mono ?_
  rintro e w' ⟨i, rfl, hy, hno, rfl⟩
  cases h : Trees.shortOk l
  · have h0 := hno h
    have H : Hid (Trees.shortOk l = false) := h
    clear hy hno h
    go_wp2_with fail
    go_ret
    exact ⟨by rw [H.out]; rfl, rfl⟩
  · have h0 := hy h
    subst h0
    have H : Hid (Trees.shortOk l = true) := h
    clear hy hno h
    go_wp2_with fail
    go_ret
    exact ⟨by rw [H.out]; rfl, rfl⟩

theorem tooMuch_any (l : List ByteArray) (a : Option Addr) (n cap : Nat) (w : World) (hr : Row w a n cap (strs l)) :
    Calls Tryz.prog 58 #[.slice a n cap] w fun e w' => e = .returned (.bool (!Trees.dataOk l)) ∧ w' = w := by
  have hln : l.length = n := by rw [← hr.1, Lists.strs_length]
  have HR : Hid (Row w a n cap (strs l)) := hr
  clear hr
  unfold Trees.dataOk
  rw [hln]
  by_cases h4 : n ≤ 200
  · rw [decide_eq_true h4, Bool.true_and]
    have h' : ¬ (200 : Int) < (n : Int) := by omega
    go_enter Tryz.func58, Tryz.ntmps58
    go_wp2_with (go_at_call 92; refine (contains_any l a n cap _ h4 HR.out).mono ?_; rintro e w' ⟨rfl, rfl⟩)
    go_ret
    exact ⟨rfl, rfl⟩
  · rw [decide_eq_false h4, Bool.false_and]
    have h' : (200 : Int) < (n : Int) := by omega
    go_enter Tryz.func58, Tryz.ntmps58
    go_wp2_with fail
    go_ret
    exact ⟨rfl, rfl⟩

theorem below_drewN {B : Nat} {a w : World} (h : Below B a w) (n : Nat) : Below B a (w.drewN n) := ⟨h.os, h.tape, h.output, h.size, h.block⟩
theorem beq_yes (x : ByteArray) : (x.toList == x.toList) = true := beq_self_eq_true _
theorem beq_no {x y : ByteArray} (h : x ≠ y) : (x.toList == y.toList) = false := by
  rw [beq_eq_false_iff_ne]
  intro e
  rw [ByteArray.toList_eq, ByteArray.toList_eq] at e
  exact h (by rw [← Nums.str_of x, e, Nums.str_of])
theorem take_snoc (l : List ByteArray) (k : Nat) (h : k < l.length) : l.take (k + 1) = l.take k ++ [l.getD k ByteArray.empty] := by
  rw [List.take_succ_eq_append_getElem h, List.getD_eq_getElem?_getD, List.getElem?_eq_getElem h]; rfl

set_option maxHeartbeats 1000000 in
theorem equal_any (l m : List ByteArray) (a b : Option Addr) (n k cap cap' : Nat) (w : World) (hr : Row w a n cap (strs l)) (hs : Row w b k cap' (strs m)) (hn : n ≤ 200) :
    Calls Tryz.prog 59 #[.slice a n cap, .slice b k cap'] w fun e w' => e = .returned (.bool (decide (l = m))) ∧ Below w.heap.size w w' := by
  have hln : l.length = n := by rw [← hr.1, Lists.strs_length]
  have hmn : m.length = k := by rw [← hs.1, Lists.strs_length]
  have HR : Hid (Row w a n cap (strs l)) := hr
  have HS : Hid (Row w b k cap' (strs m)) := hs
  clear hr hs
  by_cases hnk : n = k
  · subst hnk
    go_enter Tryz.func59, Tryz.ntmps59
    go_wp2_with fail
    go_loopw [13] (fun i wr => ∃ j : Nat, j ≤ n ∧ i = .int .i64 j ∧ Hid (l.take j = m.take j) ∧ Below w.heap.size w wr) (fun i _ => n - (intOf i).toNat)
    case atStart => exact ⟨0, Nat.zero_le _, rfl, rfl, Below.refl _ _⟩
    case round =>
      obtain ⟨j, hj, rfl, HT, hb⟩ := hrel
      by_cases hlt : j < n
      · obtain ⟨b1, off1, rfl, hc1⟩ := (HR.out.below hb).2.2 (by omega)
        obtain ⟨b2, off2, rfl, hc2⟩ := (HS.out.below hb).2.2 (by omega)
        have cell1 := hc1 j _ (Lists.strs_at (by omega))
        have cell2 := hc2 j _ (Lists.strs_at (by omega))
        clear hc1 hc2
        have i1 : (j : Int) < (n : Int) := by omega
        have HL : Hid (l.take (j + 1) = l.take j ++ [l.getD j ByteArray.empty]) := take_snoc l j (by omega)
        have HM : Hid (m.take (j + 1) = m.take j ++ [m.getD j ByteArray.empty]) := take_snoc m j (by omega)
        have HE : Hid (l = m → l.getD j ByteArray.empty = m.getD j ByteArray.empty) := fun h => by rw [h]
        generalize l.getD j ByteArray.empty = x at cell1 HL HE
        generalize m.getD j ByteArray.empty = y at cell2 HM HE
        by_cases hxy : x = y
        · subst hxy
          have hq := beq_yes x
          go_wp2_with fail
          go_quiet (fail)
          go_wp2_with fail
          go_roundw
          case rel => exact ⟨j + 1, by omega, by go_num, (show l.take (j + 1) = m.take (j + 1) by rw [HL.out, HM.out, HT.out]), below_drewN hb _⟩
          case measure => simp [intOf]; omega
        · have hq := beq_no hxy
          have HN : Hid (decide (l = m) = false) := decide_eq_false fun h => hxy (HE.out h)
          clear hxy HE
          go_wp2_with fail
          go_quiet (fail)
          go_wp2_with fail
          go_ret
          exact ⟨by rw [HN.out]; rfl, below_drewN hb _⟩
      · have HQ : Hid (l = m) := by
          have h := HT.out
          rw [List.take_of_length_le (by omega), List.take_of_length_le (by omega)] at h
          exact h
        go_wp2_with fail
        go_ret
        exact ⟨by rw [decide_eq_true HQ.out]; rfl, hb⟩
  · have i1 : ((n : Int) != (k : Int)) = true := by rw [bne_iff_ne]; omega
    have HN : Hid (decide (l = m) = false) := decide_eq_false fun h => hnk (by rw [← hln, ← hmn, h])
    go_enter Tryz.func59, Tryz.ntmps59
    go_wp2_with fail
    go_ret
    exact ⟨by rw [HN.out]; rfl, Below.refl _ _⟩

theorem info3 : (Tryz.prog.info? 3).map (fun i => (i.zero, i.size, i.bytes)) = some (some (.int .i64 0), 1, 8) := by kernel_rfl
/-- the row of leafs, the first j of them laid -/
def laid (d : List ByteArray) (j i : Nat) : Value := if i < j then .int .i64 ((Trees.leafs d).getD i 0) else .int .i64 0

theorem leafs_at (d : List ByteArray) (j : Nat) (h : j < d.length) : (Trees.leafs d).getD j 0 = Trees.leaf (d.getD j ByteArray.empty) := by
  simp [Trees.leafs, List.getD_eq_getElem?_getD, List.getElem?_eq_getElem h]

set_option maxHeartbeats 1000000 in
theorem rootOfData_any (d : List ByteArray) (a : Option Addr) (n cap : Nat) (w : World) (hn : n ≤ 200) (hr : Row w a n cap (strs d)) (hd : ∀ s ∈ d, s.size ≤ maxLen) :
    Calls Tryz.prog 60 #[.slice a n cap] w fun e w' => e = .returned (.int .i64 (Trees.root (Trees.leafs d))) ∧ Below w.heap.size w w' := by
  have hln : d.length = n := by rw [← hr.1, Lists.strs_length]
  have HR : Hid (Row w a n cap (strs d)) := hr
  have HD : Hid (∀ s ∈ d, s.size ≤ maxLen) := hd
  clear hr hd
  have hmk := run_make_row' (P := Tryz.prog) 38 3 (.int .i64 0) 8 Tryz.underlying38 info3 rfl .i64 .i64 n (by omega) (by omega)
  go_enter Tryz.func60, Tryz.ntmps60
  go_wp2_with fail
  clear hmk
  go_loopw [11] (fun i wr => ∃ j : Nat, j ≤ n ∧ i = .int .i64 j ∧ wr.rowIs w.heap.size 3 n (laid d j) ∧ Below w.heap.size w wr) (fun i _ => n - (intOf i).toNat)
  case atStart => exact ⟨0, Nat.zero_le _, rfl, (World.rowIs_made w _ n _).congr (fun i _ => by simp [laid]), (Below.refl _ _).alloc (Nat.le_refl _) _⟩
  case round =>
    obtain ⟨j, hj, rfl, hrow, hb⟩ := hrel
    have HW : Hid (wr.rowIs w.heap.size 3 n (laid d j)) := hrow
    clear hrow
    by_cases hlt : j < n
    · obtain ⟨b1, off1, rfl, hc1⟩ := (HR.out.below hb).2.2 (by omega)
      have cell1 := hc1 j _ (Lists.strs_at (by omega))
      clear hc1
      have c2 := HW.out.cell hlt
      have f2 := HW.out.frozen j
      have HX : Hid ((Trees.leafs d).getD j 0 = Trees.leaf (d.getD j ByteArray.empty)) := leafs_at d j (by omega)
      have hx : (d.getD j ByteArray.empty).size ≤ maxLen := HD.out _ (by rw [List.getD_eq_getElem?_getD, List.getElem?_eq_getElem (by omega)]; exact List.getElem_mem (by omega))
      generalize d.getD j ByteArray.empty = x at cell1 HX hx
      generalize laid d j j = old at c2
      go_wp2_with (go_at_call 94; refine (WalkSum.leaf_any _ _ hx).mono ?_; rintro e w' ⟨rfl, rfl⟩)
      go_roundw
      case rel =>
        refine ⟨j + 1, by omega, by go_num, (HW.out.set j _).congr (fun i _ => ?_), hb.setCell (Nat.le_refl _) _⟩
        unfold laid
        rcases Nat.lt_trichotomy i j with h | h | h
        · rw [if_neg (by omega), if_pos h, if_pos (by omega)]
        · subst h
          rw [if_pos rfl, if_pos (by omega), HX.out]
          rfl
        · rw [if_neg (by omega), if_neg (by omega), if_neg (by omega)]
      case measure => simp [intOf]; omega
    · have hr2 : Row wr (some ⟨w.heap.size, 0, none⟩) n n (ints (Trees.leafs d)) := by
        refine ⟨by rw [Lists.ints_length, Trees.leafs_length]; exact hln, Nat.le_refl _, fun _ => ⟨w.heap.size, 0, rfl, fun i u hu => ?_⟩⟩
        have hi : i < n := by have := (List.getElem?_eq_some_iff.1 hu).1; rw [Lists.ints_length, Trees.leafs_length] at this; omega
        rw [Lists.ints_at (by rw [Trees.leafs_length]; omega)] at hu
        rw [Nat.zero_add, HW.out.cell hi, ← hu]
        unfold laid
        rw [if_pos (by omega)]
      have HR2 : Hid (Row wr (some ⟨w.heap.size, 0, none⟩) n n (ints (Trees.leafs d))) := hr2
      clear hr2
      go_wp2_with (go_at_call 95; refine (WalkTree.rootOf_le _ _ _ _ _ hn HR2.out (Trees.leafs_valid d)).mono ?_; rintro e w1 ⟨rfl, b1⟩)
      go_ret
      exact ⟨rfl, Lists.bt hb b1⟩

set_option maxHeartbeats 1000000 in
/-- the bytes of the node of some data, parted where the variable says -/
theorem above_any (d : List ByteArray) (a : Option Addr) (n cap k : Nat) (p : Addr) (w : World) (hn : n ≤ 200) (hk0 : 0 < k) (hk : k < n) (hp : w.cell? p = some (.int .i64 (k : Int))) (hr : Row w a n cap (strs d)) (hd : ∀ s ∈ d, s.size ≤ maxLen) :
    Calls Tryz.prog 97 #[.slice a n cap, .pointer (some p)] w fun e w' => e = .returned (.string (Trees.top d k)) ∧ Below w.heap.size w w' := by
  obtain ⟨b, off, rfl, _⟩ := hr.2.2 (by omega)
  have hcap := hr.2.1
  have hck : ¬ cap = k := by omega
  have r1 : Row w (some ⟨b, off, none⟩) k cap (strs (d.take k)) := by rw [Lists.strs_take]; exact hr.take k (by omega)
  have r2 : Row w (some ⟨b, off + k, none⟩) (n - k) (cap - k) (strs (d.drop k)) := by rw [Lists.strs_drop]; exact hr.drop k (by omega)
  have d1 : ∀ s ∈ d.take k, s.size ≤ maxLen := fun x hx => hd x (List.mem_of_mem_take hx)
  have d2 : ∀ s ∈ d.drop k, s.size ≤ maxLen := fun x hx => hd x (List.mem_of_mem_drop hx)
  have c1 : ∀ q os, Calls Tryz.prog 60 #[.slice (some ⟨b, off, none⟩) k cap] (grow (redrawn w q) os) fun e w'' => e = .returned (.int .i64 (Trees.root (Trees.leafs (d.take k)))) ∧ ∃ p : Regrown, w'' = grow (redrawn w p.d) p.os :=
    fun q os => Calls.regrown_of (rootOfData_any (d.take k) _ k cap _ (by omega) (r1.below (below_regrown w q os)) d1)
  have c2 : ∀ q os, Calls Tryz.prog 60 #[.slice (some ⟨b, off + k, none⟩) (n - k) (cap - k)] (grow (redrawn w q) os) fun e w'' => e = .returned (.int .i64 (Trees.root (Trees.leafs (d.drop k)))) ∧ ∃ p : Regrown, w'' = grow (redrawn w p.d) p.os :=
    fun q os => Calls.regrown_of (rootOfData_any (d.drop k) _ (n - k) (cap - k) _ (by omega) (r2.below (below_regrown w q os)) d2)
  have c3 : ∀ q os, Calls Tryz.prog 90 #[.int .i64 (Trees.root (Trees.leafs (d.take k))), .int .i64 (Trees.root (Trees.leafs (d.drop k)))] (grow (redrawn w q) os) fun e w'' => e = .returned (.tuple #[.string (Trees.top d k), .nilIface]) ∧ ∃ p : Regrown, w'' = grow (redrawn w p.d) p.os :=
    fun q os => Calls.regrown_of (WalkMix.nodeBytes_yes _ _ _ (Trees.root_valid _ (Trees.leafs_valid _)) (Trees.root_valid _ (Trees.leafs_valid _)))
  have i1 : (k : Int) ≤ (cap : Int) := by omega
  have i2 : (k : Int) ≤ (n : Int) := by omega
  have hp' := cell_regrown hp
  clear hr hd r1 r2 d1 d2 hp
  go_enter Tryz.func97, Tryz.ntmps97
  go_wp2_with fail
  refine wp_region_quiet_below (by kernel_rfl) (by kernel_rfl) ?_
  repeat (quiet_step (fail))
  quiet_step (exact c1 _ _)
  repeat (quiet_step (fail))
  quiet_step (exact c2 _ _)
  quiet_step (exact c3 _ _)
  repeat (quiet_step (fail))
  refine wpQuiet_nil ?_
  intro _ hw'
  obtain ⟨⟨dq, osq⟩, hw''⟩ := hw'
  subst hw''
  go_wp2_with fail
  go_ret
  exact ⟨rfl, below_regrown _ dq osq⟩

theorem leafBytes_any (s : ByteArray) (w : World) (hs : s.size ≤ 200) :
    Calls Tryz.prog 98 #[.string s] w fun e w' => e = .returned (.string (Nums.str (0 :: s.data.toList))) ∧ w' = w := by
  go_enter Tryz.func98, Tryz.ntmps98
  go_wp2
  go_ret
  exact ⟨congrArg Ending.returned (congrArg Value.string (Nums.str_append [0] s.data.toList)), rfl⟩

end Go.Proofs.YthaibjidfgmdmahGreatDoor.WalkData
