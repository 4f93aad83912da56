/-
  What the program's leafsOf returns, for all pairs: the map of their leafs by their places, or what is wrong with them.
-/
import Derived.Test.YtekahahaknamfaiDoorWalkKyTree
import Derived.Test.YtekahahaknamfaiDoorPairRows
import Derived.Deep.RegionWith
namespace Go.Proofs.YtekahahaknamfaiDoor.WalkKyLeafs
open Go.RowKit
open Lists (bt)
open Wides (Wide)
open Stores (Pair keyE lt)
open PairRows (cells)
open Errs (errv errv0 errv_pos)
open KeyTrees
open KeyBits
open WalkKyMap
open WalkKyPlace (placeL z8 load_arr store_arr)

theorem aggP (w : World) : (isAgg 73).run Tryd.prog w = .ok true w := by kernel_rfl
theorem sizeP (w : World) : (sizeOf 73).run Tryd.prog w = .ok 3 w := by kernel_rfl
theorem makeMap_any (W : World) (n : Int) : (Instr.makeMap 75 (some (.int .i64 n))).run Tryd.prog W = .ok (.map (some W.heap.size)) (W.alloc (.map #[] 0)) := by kernel_rfl
theorem eq_yes (x : ByteArray) : (x.toList == x.toList) = true := beq_self_eq_true _
theorem eq_no {x y : ByteArray} (h : x ≠ y) : (x.toList == y.toList) = false := by rw [beq_eq_false_iff_ne]; exact fun e => h (Stores.toList_inj e)

theorem leq_any (x y : ByteArray) (W : World) : (binOp BinOp.leq 9 (.string x) (.string y)).run Tryd.prog W = .ok (.bool (!Op.bytesLess y.toList x.toList)) W := by
  have h : (Op.bytesLess x.toList y.toList || x.toList == y.toList) = !Op.bytesLess y.toList x.toList := by
    cases h1 : Op.bytesLess y.toList x.toList with
    | true =>
      rw [show Op.bytesLess x.toList y.toList = false from Stores.lt_asymm (show lt y x = true from h1), eq_no (fun e => Stores.lt_ne (show lt y x = true from h1) e.symm)]
      rfl
    | false =>
      cases h2 : Op.bytesLess x.toList y.toList with
      | true => rfl
      | false =>
        have e : x = y := Stores.lt_total h2 h1
        subst e
        rw [eq_yes]
        rfl
  rw [← h]
  rfl
theorem eight {bs : List UInt8} (h : bs.length = 8) : ∃ y0 y1 y2 y3 y4 y5 y6 y7, bs = [y0, y1, y2, y3, y4, y5, y6, y7] := by
  match bs, h with
  | [y0, y1, y2, y3, y4, y5, y6, y7], _ => exact ⟨y0, y1, y2, y3, y4, y5, y6, y7, rfl⟩

/-- the last key, or the empty text, that all keys are above -/
def bef (m : List Pair) : ByteArray := match m.getLast? with
  | some q => q.key
  | none => ⟨#[]⟩
theorem bef_next (m : List Pair) (p : Pair) : bef (m ++ [p]) = p.key := by unfold bef; simp
theorem nil_lt {x : ByteArray} (h : x.size ≠ 0) : lt ⟨#[]⟩ x = true := by
  show Op.bytesLess (⟨#[]⟩ : ByteArray).toList x.toList = true
  rw [ByteArray.toList_eq, ByteArray.toList_eq]
  cases hx : x.data.toList with
  | nil => exact absurd (by show x.data.size = 0; rw [← Array.length_toList, hx]; rfl) h
  | cons c t => rfl
theorem bef_clash {m : List Pair} {x : ByteArray} (hx : x.size ≠ 0) (h : lt (bef m) x = false) : ∃ q, m.getLast? = some q ∧ lt q.key x = false := by
  unfold bef at h
  cases hm : m.getLast? with
  | none =>
    rw [hm] at h
    simp only at h
    rw [nil_lt hx] at h
    cases h
  | some q =>
    rw [hm] at h
    exact ⟨q, rfl, h⟩
theorem bef_fine {m : List Pair} {x : ByteArray} (h : lt (bef m) x = true) : ∀ q, m.getLast? = some q → lt q.key x = true := fun q hq => by
  unfold bef at h
  rw [hq] at h
  exact h
theorem key_size {k : ByteArray} (h : keyE k = 0) : k.size ≠ 0 ∧ k.size ≤ 200 := by
  unfold keyE at h
  split at h
  · contradiction
  split at h
  · contradiction
  omega
theorem Used.grown {w w' : World} {b g : Nat} {l : List Pair} (h : Used w b l) (hg : w.grownBy w' (some g)) (hn : b ≠ g) : Used w' b l := h.block (hg.block b h.lt (fun e => hn (by cases e; rfl)))

set_option maxHeartbeats 4000000 in
set_option maxRecDepth 100000 in
theorem leafs_any (l : List Pair) (a : Option Addr) (n cap : Nat) (w : World) (hr : Wide 3 w a n cap (cells l)) (hz : ∀ e ∈ l, e.key.size ≤ maxLen ∧ e.val.size ≤ maxLen) :
    Calls Tryd.prog 36 #[.slice a n cap] w fun e w' => ((pairsE l ≠ 0 ∧ e = .returned (.tuple #[.map none, errv (pairsE l)])) ∨ (pairsE l = 0 ∧ ∃ b, e = .returned (.tuple #[.map (some b), .nilIface]) ∧ Used w' b l ∧ w.heap.size ≤ b)) ∧ Below w.heap.size w w' := by
  have hln := PairRows.len_of hr
  have HR : Hid (Wide 3 w a n cap (cells l)) := hr
  have HZ : Hid (∀ e ∈ l, e.key.size ≤ maxLen ∧ e.val.size ≤ maxLen) := hz
  clear hr hz
  by_cases h60 : 60 < n
  · have HV : Hid (pairsE l = 4) := by show _ = _; unfold pairsE; rw [if_pos (by omega)]
    have i0 : (60 : Int) < (n : Int) := by omega
    go_enter Tryd.func36, Tryd.ntmps36
    go_wp2_with fail
    go_ret2
    exact ⟨.inl ⟨by rw [HV.out]; decide, by rw [HV.out]; rfl⟩, Below.refl _ _⟩
  · have i0 : ¬ (60 : Int) < (n : Int) := by omega
    have a26 := aggP
    have z26 := sizeP
    have hmm := makeMap_any
    go_enter Tryd.func36, Tryd.ntmps36
    go_wp2_with fail
    clear hmm
    go_loopw [5, 21] (fun t i wr => ∃ k : Nat, k ≤ n ∧ t = .string (bef (l.take k)) ∧ i = .int .i64 (k : Int) ∧ Hid (firstE l k = 0) ∧ Hid (Used wr w.heap.size (l.take k)) ∧ Hid (Below w.heap.size w wr)) (fun _ i _ => n - (intOf i).toNat)
    case atStart => exact ⟨0, Nat.zero_le _, rfl, rfl, rfl, used_new w, (Below.refl _ _).alloc (Nat.le_refl _) _⟩
    case round =>
      obtain ⟨k, hk, rfl, rfl, HF, HU, HB⟩ := hrel
      by_cases hlt : k < n
      · have i1 : (k : Int) < (n : Int) := by omega
        have hkl : k < l.length := by omega
        obtain ⟨b1, off1, rfl, hcc⟩ := HR.out.2.2 (by omega)
        clear hcc
        obtain ⟨p0, p1, p2⟩ := PairRows.at_three (HR.out.below HB.out) k hkl
        obtain ⟨hx0, hx1⟩ := HZ.out _ (List.getElem_mem hkl)
        have HN : Hid (l.take (k + 1) = l.take k ++ [l[k]]) := List.take_succ_eq_append_getElem hkl
        have HF1 : Hid (firstE l (k + 1) = oneE (l.take k) (l[k])) := firstE_next HF.out (List.getElem?_eq_getElem hkl)
        generalize l[k] = x at p0 p1 p2 hx0 hx1 HN HF1
        obtain ⟨x0, x1, x2⟩ := x
        simp only at p0 p1 p2 hx0 hx1
        have m1 : (x1.size : Int) ≤ 9223372036854775807 := by unfold maxLen at hx1; omega
        have HM : Hid ((l.take k).length < 1000) := by show _ < _; rw [List.length_take]; omega
        generalize l.take k = m at HU HN HF1 HM
        have HX0 : Hid (x0.size ≤ maxLen) := hx0
        clear hkl hx0 hx1
        have HP : Hid (oneE m ⟨x0, x1, x2⟩ ≠ 0 → pairsE l = oneE m ⟨x0, x1, x2⟩) := fun h => by
          rw [← HF1.out] at h ⊢
          exact pairs_stop (by omega) (by omega) h
        go_wp2_with fail
        refine (WalkKyPlace.place_any x0 _ HX0.out).mono ?_
        rintro e w8 ⟨rfl, b8⟩
        have HQ8 : Hid (w8.heap[wr.heap.size]? = some (.cells #[.string x0, .string x1, .bool x2] 73)) := by
          show _ = _
          rw [b8.block _ (by simp)]
          exact heap_alloc_new _ _
        have HB8 : Hid (Below w.heap.size w w8) := bt (HB.out.alloc HB.out.size _) b8
        have HU8 : Hid (Used w8 w.heap.size m) := (HU.out.below ((Below.refl _ _).alloc (Nat.le_refl _) _) HU.out.lt).below b8 (by have := HU.out.lt; simp; omega)
        have HG8 : Hid (wr.heap.size < w8.heap.size) := by have := b8.size; simp at this; exact this
        have HZ8 : Hid (Arr (w8.alloc (.cells z8 80)) w8.heap.size (List.replicate 8 0)) := (show Arr _ _ _ from ⟨heap_alloc_new w8 _, rfl⟩)
        have HG0 : Hid (w.heap.size < wr.heap.size) := HU.out.lt
        clear p0 p1 p2 b8 HB HU
        generalize wr.heap.size = gp at HQ8 HG8 HG0
        by_cases hK : keyE x0 = 0
        · rw [show placeL x0 = bitsT (spot x0) from if_pos hK, hK, errv0]
          have HK : Hid (keyE x0 = 0) := hK
          have HLn : Hid ((bitsT (spot x0)).length = 8) := bitsT_length _
          go_upto_region 9 with (first | (refine store_arr rfl (.tmp 8) (.tmp 29) rfl _ rfl _ rfl HZ8.out HLn.out ?_; intro w9 A9 g9))
          have HB9 : Hid (Below w.heap.size w w9) := (HB8.out.alloc HB8.out.size _).grown g9 (by have := HB8.out.size; simp; omega) (fun k hk => by cases hk; exact HB8.out.size)
          have HU9 : Hid (Used w9 w.heap.size m) := Used.grown (HU8.out.below ((Below.refl _ w8).alloc (Nat.le_refl _) _) HU8.out.lt) g9 (Nat.ne_of_lt HU8.out.lt)
          have HQ9 : Hid (w9.heap[gp]? = some (.cells #[.string x0, .string x1, .bool x2] 73)) := by
            show _ = _
            rw [g9.block gp (by simp; exact Nat.lt_succ_of_lt HG8.out) (fun e => Nat.ne_of_lt HG8.out (by cases e; rfl)), heap_alloc_old _ _ HG8.out]
            exact HQ8.out
          have HA9 : Hid (Arr w9 w8.heap.size (bitsT (spot x0))) := A9
          obtain ⟨c, lk, _⟩ := used_look HU9.out (spot_lt x0)
          have HTk : Hid (taken m (spot x0) = true → ∃ q ∈ m, spot q.key = spot x0) := fun h => taken_yes h
          have q0 : w9.cell? ⟨gp, 0, none⟩ = some (.string x0) := by rw [cell_of_row _ _ 0 _ _ _ HQ9.out]; rfl
          have q1 : w9.cell? ⟨gp, 1, none⟩ = some (.string x1) := by rw [cell_of_row _ _ 1 _ _ _ HQ9.out]; rfl
          have q2 : w9.cell? ⟨gp, 2, none⟩ = some (.bool x2) := by rw [cell_of_row _ _ 2 _ _ _ HQ9.out]; rfl
          clear A9 g9 HB8 HU8 HQ8 HZ8 HG8 hK
          generalize w8.heap.size = ga at HA9
          by_cases hv : 200 < x1.size
          · have HE : Hid (pairsE l = 4) := by
              have e := one_val (l := m) (p := ⟨x0, x1, x2⟩) HK.out hv
              rw [← e]
              exact HP.out (by rw [e]; decide)
            have i3 : (200 : Int) < (x1.size : Int) := by omega
            clear hv
            go_wp2_with (refine load_arr rfl (.tmp 8) rfl _ rfl _ HA9.out ?_)
            go_ret2
            exact ⟨.inl ⟨by rw [HE.out]; decide, by rw [HE.out]; rfl⟩, HB9.out⟩
          have i3 : ¬ (200 : Int) < (x1.size : Int) := by omega
          cases x2 with
          | true =>
            have HE : Hid (pairsE l = 3) := by
              have e := one_gone (l := m) (p := ⟨x0, x1, true⟩) HK.out hv rfl
              rw [← e]
              exact HP.out (by rw [e]; decide)
            clear hv
            go_wp2_with (refine load_arr rfl (.tmp 8) rfl _ rfl _ HA9.out ?_)
            go_ret2
            exact ⟨.inl ⟨by rw [HE.out]; decide, by rw [HE.out]; rfl⟩, HB9.out⟩
          | false =>
            have HV : Hid (¬ 200 < x1.size) := hv
            have HC : Hid (((∃ q, m.getLast? = some q ∧ lt q.key x0 = false) ∨ (∃ q ∈ m, spot q.key = spot x0)) → pairsE l = 7) := fun h => by
              have e := one_clash (l := m) (p := ⟨x0, x1, false⟩) HK.out HV.out rfl h
              rw [← e]
              exact HP.out (by rw [e]; decide)
            have HBc : Hid (lt (bef m) x0 = false → ∃ q, m.getLast? = some q ∧ lt q.key x0 = false) := fun h => bef_clash (key_size HK.out).1 h
            have HBf : Hid (lt (bef m) x0 = true → ∀ q, m.getLast? = some q → lt q.key x0 = true) := fun h => bef_fine h
            clear hv
            generalize bef m = y at HBc HBf
            by_cases hL : lt y x0 = true
            · have hq := leq_any x0 y w9
              rw [show Op.bytesLess y.toList x0.toList = true from hL] at hq
              cases ht : taken m (spot x0) with
              | true =>
                have HE : Hid (pairsE l = 7) := HC.out (.inr (HTk.out ht))
                rw [ht] at lk
                clear ht hL
                go_wp2_with (refine load_arr rfl (.tmp 8) rfl _ rfl _ HA9.out ?_)
                go_ret2
                exact ⟨.inl ⟨by rw [HE.out]; decide, by rw [HE.out]; rfl⟩, HB9.out⟩
              | false =>
                have HFn : Hid (firstE l (k + 1) = 0) := by
                  show _ = _
                  rw [HF1.out]
                  exact one_fine HK.out HV.out rfl (HBf.out hL) (taken_no ht)
                obtain ⟨w10, hr, u10, g10⟩ := used_put (w := w9.drew) (b := w.heap.size) (l := m) (HU9.out.block rfl) ⟨x0, x1, false⟩ HM.out ht
                rw [ht] at lk
                clear ht hL HC HBc HBf
                go_upto_region 18 with (refine load_arr rfl (.tmp 8) rfl _ rfl _ HA9.out ?_)
                have HU10 : Hid (Used w10 w.heap.size (l.take (k + 1))) := by rw [HN.out]; exact u10
                have HB10 : Hid (Below w.heap.size w w10) := HB9.out.drew.grown g10 HB9.out.size (fun k hk => by cases hk; exact Nat.le_refl _)
                have q10 : w10.cell? ⟨gp, 0, none⟩ = some (.string x0) := by
                  have e : w10.heap[gp]? = some (.cells #[.string x0, .string x1, .bool false] 73) := by
                    rw [g10.block gp (Array.getElem?_eq_some_iff.1 HQ9.out).1 (fun e => Nat.ne_of_lt HG0.out (by cases e; rfl))]
                    exact HQ9.out
                  rw [cell_of_row _ _ 0 _ _ _ e]
                  rfl
                have HLf : Hid (∀ w', Calls Tryd.prog 46 #[.string x0, .string x1] w' fun e w2 => e = .returned (.int .i64 (placed x0 x1)) ∧ w2 = w') := fun w' => WalkKyBits.leaf_any x0 x1 w' (by have := (key_size HK.out).2; omega) (by have := HV.out; omega)
                have HBe : Hid (bef (l.take (k + 1)) = x0) := by show _ = _; rw [HN.out, bef_next]
                obtain ⟨y0, y1, y2, y3, y4, y5, y6, y7, hy⟩ := eight HLn.out
                have hr' : (Instr.mapUpdate 75 (.map (some w.heap.size)) (pv (bitsT (spot x0))) (.int .i64 (placed x0 x1))).run Tryd.prog w9.drew = .ok () w10 := hr
                have hA := HA9.out
                rw [hy] at hA hr'
                have hr2 : (Instr.mapUpdate 75 (.map (some w.heap.size)) (.agg #[.int .u8 (y0.toNat : Int), .int .u8 (y1.toNat : Int), .int .u8 (y2.toNat : Int), .int .u8 (y3.toNat : Int), .int .u8 (y4.toNat : Int), .int .u8 (y5.toNat : Int), .int .u8 (y6.toNat : Int), .int .u8 (y7.toNat : Int)]) (.int .i64 (placed x0 x1))).run Tryd.prog w9.drew = .ok () w10 := hr'
                have d0 : w9.drew.cell? ⟨ga, 0, none⟩ = some (.int .u8 (y0.toNat : Int)) := hA.cell (i := 0) rfl
                have d1 : w9.drew.cell? ⟨ga, 1, none⟩ = some (.int .u8 (y1.toNat : Int)) := hA.cell (i := 1) rfl
                have d2 : w9.drew.cell? ⟨ga, 2, none⟩ = some (.int .u8 (y2.toNat : Int)) := hA.cell (i := 2) rfl
                have d3 : w9.drew.cell? ⟨ga, 3, none⟩ = some (.int .u8 (y3.toNat : Int)) := hA.cell (i := 3) rfl
                have d4 : w9.drew.cell? ⟨ga, 4, none⟩ = some (.int .u8 (y4.toNat : Int)) := hA.cell (i := 4) rfl
                have d5 : w9.drew.cell? ⟨ga, 5, none⟩ = some (.int .u8 (y5.toNat : Int)) := hA.cell (i := 5) rfl
                have d6 : w9.drew.cell? ⟨ga, 6, none⟩ = some (.int .u8 (y6.toNat : Int)) := hA.cell (i := 6) rfl
                have d7 : w9.drew.cell? ⟨ga, 7, none⟩ = some (.int .u8 (y7.toNat : Int)) := hA.cell (i := 7) rfl
                have s0 : w9.drew.cell? ⟨gp, 0, none⟩ = some (.string x0) := q0
                have s1 : w9.drew.cell? ⟨gp, 1, none⟩ = some (.string x1) := q1
                generalize (y0.toNat : Int) = z0 at d0 hr2
                generalize (y1.toNat : Int) = z1 at d1 hr2
                generalize (y2.toNat : Int) = z2 at d2 hr2
                generalize (y3.toNat : Int) = z3 at d3 hr2
                generalize (y4.toNat : Int) = z4 at d4 hr2
                generalize (y5.toNat : Int) = z5 at d5 hr2
                generalize (y6.toNat : Int) = z6 at d6 hr2
                generalize (y7.toNat : Int) = z7 at d7 hr2
                generalize placed x0 x1 = Y at HLf hr2
                clear u10 g10 hr hr' hA hy q0 q1 q2 lk hq HTk HU9 HA9 HF1 HP HM HQ9 HB9 HN
                go_region_with (first | (go_at_call 46; refine (HLf.out _).mono ?_; rintro e w11 ⟨rfl, h11⟩; rw [h11]; clear h11 w11))
                all_goals (go_wp2_with fail; go_roundw; (case rel => exact ⟨k + 1, by omega, congrArg Value.string HBe.out.symm, by go_num, HFn, HU10, HB10⟩); (case measure => simp [intOf]; omega))
            · have hL' : lt y x0 = false := by simpa using hL
              have HE : Hid (pairsE l = 7) := HC.out (.inl (HBc.out hL'))
              have hq := leq_any x0 y w9
              rw [show Op.bytesLess y.toList x0.toList = false from hL'] at hq
              clear hL hL'
              go_wp2_with (refine load_arr rfl (.tmp 8) rfl _ rfl _ HA9.out ?_)
              go_ret2
              exact ⟨.inl ⟨by rw [HE.out]; decide, by rw [HE.out]; rfl⟩, HB9.out⟩
        · have HE : Hid (pairsE l ≠ 0 ∧ errv (pairsE l) = .iface 66 (.int .i64 (keyE x0 : Int))) := by
            have e := one_key (l := m) (p := ⟨x0, x1, x2⟩) hK
            have e2 := HP.out (by rw [e]; exact hK)
            show _ ∧ _
            rw [e2, e]
            exact ⟨hK, errv_pos _ hK⟩
          rw [show placeL x0 = List.replicate 8 0 from if_neg hK, errv_pos _ hK]
          generalize ((keyE x0 : Nat) : Int) = E at HE
          clear hK
          go_wp2_with (first | (refine store_arr rfl (.tmp 8) (.tmp 29) rfl _ rfl _ rfl HZ8.out rfl ?_; intro w9 A9 g9; have HB9 : Hid (Below w.heap.size w w9) := (HB8.out.alloc HB8.out.size _).grown g9 (by have := HB8.out.size; simp; omega) (fun k hk => by cases hk; exact HB8.out.size); clear A9 g9))
          go_ret2
          exact ⟨.inl ⟨HE.out.1, by rw [HE.out.2]; rfl⟩, HB9.out⟩
      · obtain rfl : k = n := by omega
        have HV : Hid (pairsE l = 0) := by show _ = _; unfold pairsE; rw [if_neg (by omega), hln]; exact HF.out
        have HU2 : Hid (Used wr w.heap.size l) := by have := HU.out; rw [List.take_of_length_le (by omega)] at this; exact this
        generalize bef (l.take k) = t
        clear HU HF
        go_wp2_with fail
        go_ret2
        exact ⟨.inr ⟨HV.out, _, rfl, HU2.out, Nat.le_refl _⟩, HB.out⟩

end Go.Proofs.YtekahahaknamfaiDoor.WalkKyLeafs
