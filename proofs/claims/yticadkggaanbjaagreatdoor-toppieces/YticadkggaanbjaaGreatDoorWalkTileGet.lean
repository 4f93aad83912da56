/-
  What the program's tile.Root returns where the function that it is handed tells each tile's sums.
-/
import Derived.Test.YticadkggaanbjaaGreatDoorWalkTile
import Derived.Test.YticadkggaanbjaaGreatDoorListRows
import Derived.Shelf.Abstract
import Derived.Deep.CutBlock
namespace Go.Proofs.YticadkggaanbjaaGreatDoor.WalkTileGet
open Go.RowKit
open Lists (Row ints bt)
open Keeps (Kept owns_kept owns_row owns_base owns_open)
open WalkCheck (errv errv0 errv_pos)
open Wides (Wide owns_wide)
open TileRows (cells)
open Tiles (Tile tiles sumsOf)

theorem notSum_any (n : Int) (w : World) :
    Calls Tryz.prog 137 #[.int .i64 n] w fun e w' => e = .returned (.bool (!Nums.valid n)) ∧ w' = w := by
  cases h : Nums.valid n
  · have hh : Hid (Nums.valid n = false) := h
    clear h
    go_enter Tryz.func137, Tryz.ntmps137
    go_wp2_with (go_at_call 71; refine (WalkMix.isSum_no _ _ hh.out).mono ?_; rintro e w' ⟨rfl, rfl⟩)
    go_ret
    exact ⟨rfl, rfl⟩
  · have hh : Hid (Nums.valid n = true) := h
    clear h
    go_enter Tryz.func137, Tryz.ntmps137
    go_wp2_with (go_at_call 71; refine (WalkMix.isSum_yes _ _ hh.out).mono ?_; rintro e w' ⟨rfl, rfl⟩)
    go_ret
    exact ⟨rfl, rfl⟩

set_option maxHeartbeats 1000000 in
theorem index_none (l : List Int) (a : Option Addr) (n cap : Nat) (w : World) (hn : n ≤ 200) (hr : Row w a n cap (ints l)) (hv : ∀ x ∈ l, Nums.valid x = true) :
    Calls Tryz.prog 126 #[.slice a n cap, .func (.func 137) #[] #[]] w fun e w' => e = .returned (.int .i64 (-1)) ∧ w' = w := by
  have hln : l.length = n := by rw [← hr.1, Lists.ints_length]
  have HR : Hid (Row w a n cap (ints l)) := hr
  have HV : Hid (∀ x ∈ l, Nums.valid x = true) := hv
  clear hr hv
  go_enter Tryz.func126, Tryz.ntmps126
  go_wp2_with fail
  go_loop [8] (fun i => ∃ k : Nat, k ≤ n ∧ i = .int .i64 k) (fun i => n - (intOf i).toNat)
  case atStart => exact ⟨0, Nat.zero_le _, rfl⟩
  case round =>
    obtain ⟨k, hk, rfl⟩ := hrel
    by_cases hlt : k < n
    · obtain ⟨b, off, rfl, hc⟩ := HR.out.2.2 (by omega)
      have hcell := hc k _ (Lists.ints_at (by omega))
      clear hc
      have hb : (!Nums.valid (l.getD k 0)) = false := by
        rw [HV.out _ (by rw [List.getD_eq_getElem?_getD, List.getElem?_eq_getElem (by omega)]; exact List.getElem_mem (by omega))]
        rfl
      generalize l.getD k 0 = x at hcell hb
      go_wp2_with (go_at_call 137; refine (notSum_any _ _).mono ?_; rintro e w' ⟨rfl, rfl⟩; rw [hb])
      go_round
      case rel => exact ⟨k + 1, by omega, by go_num⟩
      case measure => simp [intOf]; omega
    · go_wp2_with fail
      go_ret
      exact ⟨rfl, rfl⟩

theorem contains_none (l : List Int) (a : Option Addr) (n cap : Nat) (w : World) (hn : n ≤ 200) (hr : Row w a n cap (ints l)) (hv : ∀ x ∈ l, Nums.valid x = true) :
    Calls Tryz.prog 72 #[.slice a n cap, .func (.func 137) #[] #[]] w fun e w' => e = .returned (.bool false) ∧ w' = w := by
  have c := index_none l a n cap w hn hr hv
  clear hr hv
  go_enter Tryz.func72, Tryz.ntmps72
  go_wp2_with fail
  refine c.mono ?_
  rintro e w' ⟨rfl, rfl⟩
  go_wp2_with fail
  go_ret
  exact ⟨rfl, rfl⟩

theorem fits_yes (l : List Int) (a : Option Addr) (n cap : Nat) (x y : Int) (w : World) (hn : n ≤ 200) (hr : Row w a n cap (ints l)) (hv : ∀ x ∈ l, Nums.valid x = true) :
    Calls Tryz.prog 93 #[.agg #[.int .i64 x, .int .i64 y, .int .i64 (n : Int)], .slice a n cap] w fun e w' => e = .returned (.bool true) ∧ Below w.heap.size w w' := by
  have b0 : Below w.heap.size w (w.alloc (.cells #[.int .i64 x, .int .i64 y, .int .i64 (n : Int)] 67)) := (Below.refl _ _).alloc (Nat.le_refl _) _
  have c := contains_none l a n cap _ hn (hr.below b0) hv
  have i1 : ((n : Int) == (n : Int)) = true := by rw [beq_iff_eq]
  clear hr hv
  go_enter Tryz.func93, Tryz.ntmps93
  go_wp2_with fail
  refine c.mono ?_
  rintro e w' ⟨rfl, rfl⟩
  go_wp2_with fail
  go_ret
  exact ⟨rfl, b0⟩

theorem info3 : (Tryz.prog.info? 3).map (fun i => (i.zero, i.size, i.bytes)) = some (some (.int .i64 0), 1, 8) := by kernel_rfl
theorem isFunc (g : FuncId) (caps : Array Value) (w : World) : (binOp .eql 69 (.func (.func g) #[] caps) .nilFunc).run Tryz.prog w = .ok (.bool false) w := by kernel_rfl
/-- where the asking stands: of the first k tiles the leafs are there -/
structure At (Inv : List Tile → World → Prop) (l : List Int) (n B B1 : Nat) (a : Option Addr) (cap : Nat) (v : Value) (k : Nat) (wr : World) : Prop where
  leafs : wr.ownsRow B1 3 1 v (l.take (4 * k)).length (ints (l.take (4 * k)))
  rows : wr.ownsRow B 67 3 (.slice a (tiles n).length cap) (tiles n).length (cells (tiles n))
  inv : Inv ((tiles n).take k) wr
  size : B1 ≤ wr.heap.size
theorem sub_pre {ps : List Tile} {t : Tile} {n k : Nat} (hp : ps = (tiles n).take k) (ht : (tiles n)[k]? = some t) : ps ++ [t] = (tiles n).take (k + 1) ∧ (ps ++ [t]) <+: tiles n := by
  obtain ⟨hk, he⟩ := List.getElem?_eq_some_iff.1 ht
  have e : ps ++ [t] = (tiles n).take (k + 1) := by rw [List.take_succ_eq_append_getElem hk, hp, he]
  exact ⟨e, by rw [e]; exact List.take_prefix _ _⟩

set_option maxHeartbeats 4000000 in
set_option maxRecDepth 100000 in
theorem root_any (g : FuncId) (caps : Array Value) (hg : Enters Tryz.prog g) (l : List Int) (n : Nat) (w : World) (hln : l.length = n) (h0 : Trees.leafsE l = 0) (Inv : List Tile → World → Prop)
    (hI : ∀ ps w1 w2, Inv ps w1 → w.heap.size ≤ w1.heap.size → Below w.heap.size w1 w2 → Inv ps w2)
    (hT : ∀ ps (x y z : Nat) w1, w.heap.size ≤ w1.heap.size → (ps ++ [(x, y, z)]) <+: tiles n → Inv ps w1 →
      Calls Tryz.prog g (#[.agg #[.int .i64 (x : Int), .int .i64 (y : Int), .int .i64 (z : Int)]] ++ caps) w1 fun e w2 => ∃ v, e = .returned (.tuple #[v, .nilIface]) ∧ w2.ownsRow w1.heap.size 3 1 v (sumsOf l (x, y, z)).length (ints (sumsOf l (x, y, z))) ∧ Inv (ps ++ [(x, y, z)]) w2 ∧ Kept (fun k => k < w.heap.size) w1 w2)
    (hInv : Inv [] w) :
    Calls Tryz.prog 30 #[.int .i64 (n : Int), .func (.func g) #[] caps] w fun e w' => e = .returned (.tuple #[.int .i64 (Trees.root l), .nilIface]) ∧ Inv (tiles n) w' ∧ w.heap.size ≤ w'.heap.size := by
  obtain ⟨hn, hv⟩ : n ≤ 200 ∧ ∀ x ∈ l, Nums.valid x = true := by
    have h := h0
    unfold Trees.leafsE at h
    rw [hln] at h
    split at h
    · cases h
    · split at h
      · exact ⟨by omega, Trees.allOk_mem (by assumption)⟩
      · cases h
  obtain ⟨i0, hi, hz0, hz1, hz2⟩ := info_parts info3
  have cA := WalkTile.all_any (n : Int) w
  rw [show Tiles.sizeE (n : Int) = 0 from if_neg (by omega), show Tiles.allL (n : Int) = tiles n from if_neg (by omega), errv0] at cA
  have hlT := Tiles.upto_length n 4 (by omega) hn
  change (tiles n).length ≤ 200 at hlT
  have HI : Hid (∀ ps w1 w2, Inv ps w1 → w.heap.size ≤ w1.heap.size → Below w.heap.size w1 w2 → Inv ps w2) := hI
  have HT : Hid (∀ ps (x y z : Nat) w1, w.heap.size ≤ w1.heap.size → (ps ++ [(x, y, z)]) <+: tiles n → Inv ps w1 →
      Calls Tryz.prog g (#[.agg #[.int .i64 (x : Int), .int .i64 (y : Int), .int .i64 (z : Int)]] ++ caps) w1 fun e w2 => ∃ v, e = .returned (.tuple #[v, .nilIface]) ∧ w2.ownsRow w1.heap.size 3 1 v (sumsOf l (x, y, z)).length (ints (sumsOf l (x, y, z))) ∧ Inv (ps ++ [(x, y, z)]) w2 ∧ Kept (fun k => k < w.heap.size) w1 w2) := hT
  have HV : Hid (∀ x ∈ l, Nums.valid x = true) := hv
  have HL : Hid (Trees.leafsE l = 0) := h0
  clear hI hT hv h0
  go_enter Tryz.func30, Tryz.ntmps30
  go_wp2_with fail
  refine cA.mono ?_
  rintro e w1 ⟨v, rfl, o1, b1⟩
  obtain ⟨at1, cp1, rfl, hw1⟩ := owns_wide o1
  have hlt1 : ∀ j, (Value.slice at1 (tiles n).length cp1).ownBlock = some j → w.heap.size ≤ j ∧ j < w1.heap.size := o1.lt
  have s1 := b1.size
  have J0 : At Inv l n w.heap.size w1.heap.size at1 cp1 (.slice none 0 0) 0 w1 := ⟨World.ownsRow_nil _ _ _ _, o1, HI.out _ _ _ hInv (Nat.le_refl _) b1, Nat.le_refl _⟩
  have hf := isFunc g caps
  have HLt : Hid (∀ j, (Value.slice at1 (tiles n).length cp1).ownBlock = some j → w.heap.size ≤ j ∧ j < w1.heap.size) := hlt1
  clear cA o1 hw1 hInv b1 hlt1
  go_wp2_with fail
  clear hf
  go_loopw [8, 9, 11, 12, 13, 26] (fun v f _ _ _ i wr => ∃ k : Nat, k ≤ (tiles n).length ∧ i = .int .i64 (k : Int) ∧ f = .bool true ∧ At Inv l n w.heap.size w1.heap.size at1 cp1 v k wr) (fun _ _ _ _ _ i _ => (tiles n).length - (intOf i).toNat)
  case atStart => exact ⟨0, Nat.zero_le _, rfl, rfl, J0⟩
  case round =>
    obtain ⟨k, hk, rfl, rfl, hJ⟩ := hrel
    have HJ : Hid (At Inv l n w.heap.size w1.heap.size at1 cp1 u8 k wr) := hJ
    have s2 := hJ.size
    clear hJ J0
    by_cases hlt : k < (tiles n).length
    · have i1 : (k : Int) < ((tiles n).length : Int) := by omega
      have hwide := (Wides.Wide.of_owns HJ.out.rows).2
      obtain ⟨b1, off1, rfl, _⟩ := hwide.2.2 (by omega)
      obtain ⟨p0, p1, p2⟩ := TileRows.at_three hwide k hlt
      have hg2 : (tiles n)[k]? = some (tiles n)[k] := List.getElem?_eq_getElem hlt
      have hle := Tiles.tiles_le hn _ (List.getElem_mem hlt)
      generalize (tiles n)[k] = t at p0 p1 p2 hg2 hle
      obtain ⟨x, y, z⟩ := t
      simp only at p0 p1 p2 hle
      obtain ⟨t1, t2, t3, t4⟩ := hle
      obtain ⟨e1, e2⟩ := sub_pre rfl hg2
      have a28 := WalkTile.aggT
      have z28 := WalkTile.sizeT
      have HG : Hid ((tiles n)[k]? = some (x, y, z)) := hg2
      clear hwide hg2
      go_upto_region 11 with fail
      have bA : Below wr.heap.size wr (wr.alloc (.cells #[.int .i64 (x : Int), .int .i64 (y : Int), .int .i64 (z : Int)] 67)) := (Below.refl _ _).alloc (Nat.le_refl _) _
      have n0 : (wr.alloc (.cells #[.int .i64 (x : Int), .int .i64 (y : Int), .int .i64 (z : Int)] 67)).cell? ⟨wr.heap.size, 0, none⟩ = some (.int .i64 (x : Int)) := by simp
      have n1 : (wr.alloc (.cells #[.int .i64 (x : Int), .int .i64 (y : Int), .int .i64 (z : Int)] 67)).cell? ⟨wr.heap.size, 1, none⟩ = some (.int .i64 (y : Int)) := by simp
      have n2 : (wr.alloc (.cells #[.int .i64 (x : Int), .int .i64 (y : Int), .int .i64 (z : Int)] 67)).cell? ⟨wr.heap.size, 2, none⟩ = some (.int .i64 (z : Int)) := by simp
      have szA : wr.heap.size < (wr.alloc (.cells #[.int .i64 (x : Int), .int .i64 (y : Int), .int .i64 (z : Int)] 67)).heap.size := by simp
      generalize wr.alloc (.cells #[.int .i64 (x : Int), .int .i64 (y : Int), .int .i64 (z : Int)] 67) = wA at bA n0 n1 n2 szA ⊢
      have JA : Inv ((tiles n).take k) wA := HI.out _ _ _ HJ.out.inv (by omega) (bA.mono (by omega))
      have HOA : Hid (wA.ownsRow w1.heap.size 3 1 u8 (l.take (4 * k)).length (ints (l.take (4 * k)))) := owns_kept HJ.out.leafs (Kept.of_below (fun _ => False) bA) fun _ _ q => q
      have HRA : Hid (wA.ownsRow w.heap.size 67 3 (.slice (some ⟨b1, off1, none⟩) (tiles n).length cp1) (tiles n).length (cells (tiles n))) := owns_kept HJ.out.rows (Kept.of_below (fun _ => False) bA) fun _ _ q => q
      have cG := HT.out ((tiles n).take k) x y z wA (by omega) e2 JA
      rw [e1] at cG
      clear p0 p1 p2 bA HJ e1 e2 JA
      go_wp2_with fail
      rw [hg, Oper.upon_enter]
      refine cG.mono ?_
      rintro e w2 ⟨v2, rfl, o2, J2, kp⟩
      have szz : (sumsOf l (x, y, z)).length = z := Tiles.sumsOf_length _ _
      obtain ⟨g2, cp2, rfl, z1, z2, z3, z4, z5, hc2, z6⟩ := owns_open o2 (by omega)
      have HR2 : Hid (Row w2 (some ⟨g2, 0, none⟩) z cp2 (ints (sumsOf l (x, y, z)))) := by
        have h := (Row.of_owns o2).2
        rw [szz] at h
        exact h
      rw [szz]
      have nS : ¬ (wr.heap.size < w.heap.size) := by omega
      replace n0 := (kp.cell (p := ⟨wr.heap.size, 0, none⟩) szA nS).trans n0
      replace n1 := (kp.cell (p := ⟨wr.heap.size, 1, none⟩) szA nS).trans n1
      replace n2 := (kp.cell (p := ⟨wr.heap.size, 2, none⟩) szA nS).trans n2
      have HO2 : Hid (w2.ownsRow w1.heap.size 3 1 u8 (l.take (4 * k)).length (ints (l.take (4 * k)))) := owns_kept HOA.out kp fun i hi => by have := HOA.out.lt i hi; omega
      have HRo2 : Hid (w2.ownsRow w.heap.size 67 3 (.slice (some ⟨b1, off1, none⟩) (tiles n).length cp1) (tiles n).length (cells (tiles n))) := owns_kept HRA.out kp fun i hi => by have := HRA.out.lt i hi; omega
      have s3 : w1.heap.size ≤ w2.heap.size := Nat.le_trans (Nat.le_trans s2 (Nat.le_of_lt szA)) kp.size
      have hv2 := Tiles.sumsOf_valid l (x, y, z) HV.out
      have cF := fits_yes (sumsOf l (x, y, z)) (some ⟨g2, 0, none⟩) z cp2 (x : Int) (y : Int) w2 (by omega) HR2.out hv2
      clear cG o2 z1 z2 z3 z4 z5 z6 hc2 kp HOA HRA nS hv2
      go_wp2_with fail
      refine cF.mono ?_
      rintro e w3 ⟨rfl, b3⟩
      replace n0 := Lists.cell_below b3 n0
      have HO3 : Hid (w3.ownsRow w1.heap.size 3 1 u8 (l.take (4 * k)).length (ints (l.take (4 * k)))) := owns_kept HO2.out (Kept.of_below (fun _ => False) b3) fun _ _ q => q
      have HRo3 : Hid (w3.ownsRow w.heap.size 67 3 (.slice (some ⟨b1, off1, none⟩) (tiles n).length cp1) (tiles n).length (cells (tiles n))) := owns_kept HRo2.out (Kept.of_below (fun _ => False) b3) fun _ _ q => q
      have HR3 : Hid (Row w3 (some ⟨g2, 0, none⟩) z cp2 (ints (sumsOf l (x, y, z)))) := HR2.out.below b3
      have J3 : Inv ((tiles n).take (k + 1)) w3 := HI.out _ _ _ J2 (by omega) (b3.mono (by omega))
      have s4 : w1.heap.size ≤ w3.heap.size := Nat.le_trans s3 b3.size
      clear cF b3 n1 n2 HO2 HRo2 HR2 J2
      by_cases hx : x = 0
      · subst hx
        have i2 : (((0 : Nat) : Int) == 0) = true := rfl
        have hc3 : ∀ j u, (ints (sumsOf l (0, y, z)))[j]? = some u → w3.cell? ((⟨g2, 0, none⟩ : Addr).add j) = some u := by
          obtain ⟨b, off, hb, hc⟩ := HR3.out.2.2 (by omega)
          obtain ⟨rfl, rfl⟩ : g2 = b ∧ 0 = off := by simpa using hb
          intro j u hj
          have := hc j u hj
          by_cases hj0 : j = 0
          · subst hj0
            simpa [Addr.add] using this
          · simpa [Addr.add, hj0] using this
        have hin : 4 * k < n := by
          rcases Nat.lt_or_ge (4 * k) n with h | h
          · exact h
          · exact absurd rfl (TilesRoot.tile_high n k _ h HG.out)
        have hyz : y = k ∧ z = min 4 (n - 4 * k) := by
          have h := TilesRoot.tile_low n k hin
          rw [HG.out] at h
          simpa using h
        have HK : Hid (l.take (4 * (k + 1)) = l.take (4 * k) ++ sumsOf l (0, y, z)) := by
          have h := TilesRoot.take_low l n k hln hin
          rw [← hyz.2] at h
          rw [hyz.1]
          exact h
        have hl4 : (l.take (4 * k)).length ≤ 200 := by rw [List.length_take]; omega
        have HC3 : Hid (∀ j u, (ints (sumsOf l (0, y, z)))[j]? = some u → w3.cell? ((⟨g2, 0, none⟩ : Addr).add j) = some u) := hc3
        clear hc3 hyz hin
        go_wp2_with (at_builtin; go_must (refine wpList_append_own _ rfl (.tmp 51) (.tmp 52) 45 rfl w1.heap.size 3 i0 (.int .i64 0) 1 8 Tryz.underlying45 hi hz0 hz1 hz2 rfl (by decide) _ _ _ rfl HO3.out ⟨g2, 0, none⟩ z cp2 (ints (sumsOf l (0, y, z))) rfl (by rw [Lists.ints_length, szz]; omega) HC3.out (fun u hu => by obtain ⟨q, _, rfl⟩ := List.mem_map.1 hu; rfl) (by unfold maxLen; omega) (by omega) s4 ?_); intro v1 wn o1 g1 z1; clear z1)
        have bN : Below w.heap.size w3 wn := (Below.refl _ _).grown g1 (by omega) (fun j hj => by have := HO3.out.lt j hj; omega)
        have JN : At Inv l n w.heap.size w1.heap.size (some ⟨b1, off1, none⟩) cp1 v1 (k + 1) wn := by
          refine ⟨?_, HRo3.out.kept g1 ?_, HI.out _ _ _ J3 (by omega) bN, Nat.le_trans s4 g1.size⟩
          · rw [HK.out, List.length_append, szz]
            have e : ints (l.take (4 * k) ++ sumsOf l (0, y, z)) = ints (l.take (4 * k)) ++ ints (sumsOf l (0, y, z)) := by simp [ints]
            rw [e]
            exact o1
          · refine .inr fun h => ?_
            have h1 := HLt.out b1 rfl
            have h2 := HO3.out.lt b1 h.symm
            omega
        clear g1 o1 HO3 HRo3 HR3 HC3
        go_roundw
        case rel => exact ⟨k + 1, by omega, by go_num, rfl, JN⟩
        case measure => simp [intOf]; omega
      · have i2 : ((x : Int) == 0) = false := by rw [beq_eq_false_iff_ne]; omega
        have hout : n ≤ 4 * k := by
          rcases Nat.lt_or_ge (4 * k) n with h | h
          · have h2 := TilesRoot.tile_low n k h
            rw [HG.out] at h2
            exact absurd (by simpa using h2 : x = 0 ∧ _).1 hx
          · exact h
        have JN : At Inv l n w.heap.size w1.heap.size (some ⟨b1, off1, none⟩) cp1 u8 (k + 1) w3 := by
          refine ⟨?_, HRo3.out, J3, s4⟩
          have h := HO3.out
          rw [TilesRoot.take_high l n k hln hout] at h
          rw [TilesRoot.take_high l n (k + 1) hln (by omega)]
          exact h
        clear HO3 HRo3 HR3
        go_wp2_with fail
        go_roundw
        case rel => exact ⟨k + 1, by omega, by go_num, rfl, JN⟩
        case measure => simp [intOf]; omega
    · have i1 : ¬ (k : Int) < ((tiles n).length : Int) := by omega
      obtain rfl : k = (tiles n).length := by omega
      have hE : l.take (4 * (tiles n).length) = l := TilesRoot.take_high l n _ hln (TilesRoot.tiles_many n)
      have hO := HJ.out.leafs
      rw [hE] at hO
      obtain ⟨a8, c8, rfl, hr8, _⟩ := owns_row hO
      have hJ := HJ.out.inv
      rw [List.take_length] at hJ
      have cR := WalkCheck.root_any l a8 l.length c8 wr hr8
      rw [HL.out, errv0, show Trees.rootV l = Trees.root l from if_pos HL.out, hln] at cR
      clear hE hO HJ hr8
      go_wp2_with fail
      refine cR.mono ?_
      rintro e w2 ⟨rfl, b2⟩
      go_wp2_with fail
      go_ret2
      exact ⟨rfl, HI.out _ _ _ hJ (by omega) (b2.mono (by omega)), Nat.le_trans (by omega) b2.size⟩

end Go.Proofs.YticadkggaanbjaaGreatDoor.WalkTileGet
