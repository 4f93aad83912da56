/-
  What the program's search among keys returns: strings.Compare, slices.BinarySearchFunc as package store calls it, and its find.
-/
import Derived.Test.YtofaegcljcpceagGreatDoorSpots
import Derived.Test.YtofaegcljcpceagGreatDoorPairRows
import Derived.Test.YtofaegcljcpceagGreatDoorRows
import Derived.Test.YtofaegcljcpceagGreatDoorKeeps
import Derived.Shelf.Abstract
import Derived.Lib.Bytealg
import Derived.Laws.Externs
import Derived.Deep.DeepMust
import Derived.Deep.CutBlock
namespace Go.Proofs.YtofaegcljcpceagGreatDoor.WalkStoFind
open Go.RowKit
open Lists (bt)
open Wides (Wide)
open Stores (Pair lt Rising)
open PairRows (cells)
open Spots (cmp Spot)

theorem aggP (w : World) : (isAgg 31).run Tryz.prog w = .ok true w := by kernel_rfl
theorem sizeP (w : World) : (sizeOf 31).run Tryz.prog w = .ok 3 w := by kernel_rfl

set_option maxHeartbeats 1000000 in
set_option maxRecDepth 100000 in
theorem cmpstring_any (a b : ByteArray) (w : World) : Calls Tryz.prog 72 #[.string a, .string b] w fun e w' => e = .returned (.int .i64 (cmp a b)) ∧ w' = w := by
  rw [← Spots.compare_eq]
  go_enter Tryz.func72, Tryz.ntmps72
  go_wp2_with fail
  rw [run_callFunc_extern Tryz.func88 (by kernel_rfl) (by kernel_rfl) (by kernel_rfl) (e := Extern.BytealgCompare.compare) (by kernel_rfl), Lib.run_compareString]
  simp only [Result.andThen]
  rw [Oper.upon_value]
  go_wp2_with fail
  go_ret
  exact ⟨rfl, rfl⟩

theorem compare_any (a b : ByteArray) (w : World) : Calls Tryz.prog 46 #[.string a, .string b] w fun e w' => e = .returned (.int .i64 (cmp a b)) ∧ w' = w := by
  go_enter Tryz.func46, Tryz.ntmps46
  go_wp2_with fail
  refine (cmpstring_any a b _).mono ?_
  rintro e w1 ⟨rfl, rfl⟩
  go_wp2_with fail
  go_ret
  exact ⟨rfl, rfl⟩

theorem against_any (x y : ByteArray) (z : Bool) (key : ByteArray) (w : World) : Calls Tryz.prog 106 #[.agg #[.string x, .string y, .bool z], .string key] w fun e w' => e = .returned (.int .i64 (cmp x key)) ∧ Below w.heap.size w w' := by
  have b0 : Below w.heap.size w (w.alloc (.cells #[.string x, .string y, .bool z] 31)) := (Below.refl _ _).alloc (Nat.le_refl _) _
  go_enter Tryz.func106, Tryz.ntmps106
  go_wp2_with fail
  refine (compare_any x key _).mono ?_
  rintro e w1 ⟨rfl, rfl⟩
  go_wp2_with fail
  go_ret
  exact ⟨rfl, b0⟩

/-- whether the key is there -/
def There (l : List Pair) (key : ByteArray) (i : Nat) (r : Bool) : Prop := (r = true ∧ ∃ h : i < l.length, (l[i]).key = key) ∨ (r = false ∧ ∀ h : i < l.length, (l[i]).key ≠ key)

/-- what the search answers -/
def Found (l : List Pair) (key : ByteArray) (w : World) (e : Ending) (w' : World) : Prop := ∃ (i : Nat) (r : Bool), e = .returned (.tuple #[.int .i64 (i : Int), .bool r]) ∧ Spot l key i ∧ There l key i r ∧ Below w.heap.size w w'

set_option maxHeartbeats 4000000 in
set_option maxRecDepth 100000 in
theorem search_any (l : List Pair) (key : ByteArray) (a : Option Addr) (n cap : Nat) (w : World) (hr : Wide 3 w a n cap (cells l)) (hn : n ≤ 1000000) (hris : Rising l) :
    Calls Tryz.prog 105 #[.slice a n cap, .string key, .func (.func 106) #[] #[]] w fun e w' => Found l key w e w' := by
  have hln := PairRows.len_of hr
  have HR : Hid (Wide 3 w a n cap (cells l)) := hr
  have HL : Hid (l.length = n) := hln
  have HI : Hid (Rising l) := hris
  have a26 := aggP
  have z26 := sizeP
  clear hr hris hln
  go_enter Tryz.func105, Tryz.ntmps105
  go_wp2_with fail
  go_loopw [9, 10] (fun s9 s10 wr => ∃ lo hi : Nat, s9 = .int .i64 (lo : Int) ∧ s10 = .int .i64 (hi : Int) ∧ lo ≤ hi ∧ hi ≤ n ∧ Hid (∀ (j : Nat) (h : j < l.length), j < lo → lt (l[j]).key key = true) ∧ Hid (∀ (j : Nat) (h : j < l.length), hi ≤ j → lt (l[j]).key key = false) ∧ Below w.heap.size w wr) (fun s9 s10 _ => (intOf s10).toNat - (intOf s9).toNat)
  case atStart => exact ⟨0, n, rfl, rfl, Nat.zero_le _, Nat.le_refl _, fun j h h0 => absurd h0 (Nat.not_lt_zero _), fun j h h0 => absurd h (by have := HL.out; omega), Below.refl _ _⟩
  case round =>
    obtain ⟨lo, hi, rfl, rfl, h1, h2, HA, HB, hb⟩ := hrel
    by_cases hlt : lo < hi
    · have i1 : (lo : Int) < (hi : Int) := by omega
      obtain ⟨M, HM⟩ : ∃ M : Nat, Hid ((lo + hi) / 2 = M) := ⟨_, rfl⟩
      have k1 : ((lo : Int) + (hi : Int)) / 2 = (M : Int) := by have := HM.out; omega
      have m1 : lo ≤ M := by have := HM.out; omega
      have m2 : M < hi := by have := HM.out; omega
      have i2 : (M : Int) < (n : Int) := by omega
      have hml : M < l.length := by have := HL.out; omega
      obtain ⟨b1, off1, rfl, _⟩ := (HR.out.below hb).2.2 (by omega)
      obtain ⟨p0, p1, p2⟩ := PairRows.at_three (HR.out.below hb) M hml
      have HX1 : Hid (lt (l[M]).key key = true → ∀ (j : Nat) (h : j < l.length), j < M + 1 → lt (l[j]).key key = true) := fun h j hj hjm => Spots.below_ahead HI.out M hml h j hj (by omega)
      have HX2 : Hid (lt (l[M]).key key = false → ∀ (j : Nat) (h : j < l.length), M ≤ j → lt (l[j]).key key = false) := fun h j hj hjm => Spots.not_below_behind HI.out M hml h j hj hjm
      generalize l[M] = x at p0 p1 p2 HX1 HX2
      obtain ⟨x0, x1, x2⟩ := x
      simp only at p0 p1 p2 HX1 HX2
      have cC := against_any x0 x1 x2 key wr
      have HBw : Hid (Below w.heap.size w wr) := hb
      clear hb hml HM
      cases hl : lt x0 key with
      | true =>
        rw [Spots.cmp_neg hl] at cC
        have HN := HX1.out hl
        clear HX1 HX2 hl
        go_wp2_with fail
        refine cC.mono ?_
        rintro e w1 ⟨rfl, bb1⟩
        have hb1 := bt HBw.out bb1
        clear p0 p1 p2 bb1 HBw cC
        go_wp2_with fail
        go_roundw
        case rel => exact ⟨M + 1, hi, by go_num, rfl, by omega, h2, HN, HB, hb1⟩
        case measure => simp [intOf]; omega
      | false =>
        have q : cmp x0 key = 0 ∨ cmp x0 key = 1 := by
          by_cases e : x0 = key
          · exact .inl (by rw [e]; exact Spots.cmp_zero _)
          · exact .inr (Spots.cmp_pos hl e)
        have q0 : ¬ cmp x0 key < 0 := by omega
        generalize cmp x0 key = c at cC q0
        have HN := HX2.out hl
        clear HX1 HX2 hl q
        go_wp2_with fail
        refine cC.mono ?_
        rintro e w1 ⟨rfl, bb1⟩
        have hb1 := bt HBw.out bb1
        clear p0 p1 p2 bb1 HBw cC
        go_wp2_with fail
        go_roundw
        case rel => exact ⟨lo, M, rfl, rfl, m1, by omega, HA, HN, hb1⟩
        case measure => simp [intOf]; omega
    · obtain rfl : lo = hi := by omega
      have HS : Hid (Spot l key lo) := ⟨by have := HL.out; omega, HA.out, HB.out⟩
      have i1 : ¬ (lo : Int) < (lo : Int) := by omega
      clear HA HB h1 hlt
      by_cases hln : lo < n
      · have i2 : (lo : Int) < (n : Int) := by omega
        have hml : lo < l.length := by have := HL.out; omega
        obtain ⟨b1, off1, rfl, _⟩ := (HR.out.below hb).2.2 (by omega)
        obtain ⟨p0, p1, p2⟩ := PairRows.at_three (HR.out.below hb) lo hml
        have HT1 : Hid ((l[lo]).key = key → There l key lo true) := fun h => .inl ⟨rfl, hml, h⟩
        have HT2 : Hid ((l[lo]).key ≠ key → There l key lo false) := fun h => .inr ⟨rfl, fun _ => h⟩
        have HX : Hid (lt (l[lo]).key key = false) := HS.out.behind lo hml (Nat.le_refl _)
        generalize l[lo] = x at p0 p1 p2 HT1 HT2 HX
        obtain ⟨x0, x1, x2⟩ := x
        simp only at p0 p1 p2 HT1 HT2 HX
        have cC := against_any x0 x1 x2 key wr
        have HBw : Hid (Below w.heap.size w wr) := hb
        clear hb hml h2
        by_cases he : x0 = key
        · rw [he, Spots.cmp_zero] at cC
          have HT := HT1.out he
          rw [he] at p0
          clear HT1 HT2 HX he
          go_wp2_with fail
          refine cC.mono ?_
          rintro e w1 ⟨rfl, bb1⟩
          have hb1 := bt HBw.out bb1
          clear p0 p1 p2 bb1 HBw cC
          go_wp2_with fail
          go_ret2
          exact ⟨lo, true, rfl, HS.out, HT, hb1⟩
        · rw [Spots.cmp_pos HX.out he] at cC
          have HT := HT2.out he
          clear HT1 HT2 HX he
          go_wp2_with fail
          refine cC.mono ?_
          rintro e w1 ⟨rfl, bb1⟩
          have hb1 := bt HBw.out bb1
          clear p0 p1 p2 bb1 HBw cC
          go_wp2_with fail
          go_ret2
          exact ⟨lo, false, rfl, HS.out, HT, hb1⟩
      · have hge : Hid (l.length ≤ lo) := by have := HL.out; show _ ≤ _; omega
        have i2 : ¬ (lo : Int) < (n : Int) := by omega
        go_wp2_with fail
        go_ret2
        exact ⟨lo, false, rfl, HS.out, .inr ⟨rfl, fun h => absurd h (by have := hge.out; omega)⟩, hb⟩

/-- find, at a store in block b whose pairs lie in the slice a -/
theorem find_any (l : List Pair) (key : ByteArray) (b : Nat) (a : Option Addr) (n cap : Nat) (w : World) (hc : w.cell? ⟨b, 0, none⟩ = some (.slice a n cap)) (hr : Wide 3 w a n cap (cells l)) (hn : n ≤ 1000000) (hris : Rising l) :
    Calls Tryz.prog 98 #[.pointer (some ⟨b, 0, none⟩), .string key] w fun e w' => Found l key w e w' := by
  have cS := search_any l key a n cap w hr hn hris
  clear hr hris
  go_enter Tryz.func98, Tryz.ntmps98
  go_wp2_with fail
  refine cS.mono ?_
  rintro e w1 ⟨i, r, rfl, h1, h2, h3⟩
  clear cS
  go_wp2_with fail
  go_ret2
  exact ⟨i, r, rfl, h1, h2, h3⟩

end Go.Proofs.YtofaegcljcpceagGreatDoor.WalkStoFind
