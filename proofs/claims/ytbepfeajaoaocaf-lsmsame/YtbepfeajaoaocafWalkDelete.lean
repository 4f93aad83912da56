/-
  What slices.IndexFunc and slices.DeleteFunc do with pairs: the first that is so, and all that are so left out.
-/
import Derived.Test.YtbepfeajaoaocafWalkStable
namespace Go.Proofs.Ytbepfeajaoaocaf.WalkDelete
open Go.RowKit
open Lists (bt)
open Keeps (Kept)
open Wides (Wide)
open Stores (Pair)
open PairRows (cells cells_append cells_length cells_at)
open WideCopy (Lies)
open WalkStoFind (aggP sizeP)
open WalkSwap (At only)

/-! clear -/
def zeroP : Pair := ⟨⟨#[]⟩, ⟨#[]⟩, false⟩
theorem zero_cells (n : Nat) : (Builtin.zeroCells #[.string ⟨#[]⟩, .string ⟨#[]⟩, .bool false] n).toList = cells (List.replicate n zeroP) := by
  apply List.ext_getElem?
  intro j
  have hl : (Builtin.zeroCells #[.string ⟨#[]⟩, .string ⟨#[]⟩, .bool false] n).toList.length = n * 3 := by
    rw [Array.length_toList, size_zeroCells]
    rfl
  have hc : (cells (List.replicate n zeroP)).length = n * 3 := by rw [cells_length, List.length_replicate]
  by_cases hj : j < n * 3
  · obtain ⟨c0, c1, c2⟩ := cells_at (List.replicate n zeroP) (j / 3) (by rw [List.length_replicate]; omega)
    rw [List.getElem_replicate] at c0 c1 c2
    have hz : (Builtin.zeroCells #[.string ⟨#[]⟩, .string ⟨#[]⟩, .bool false] n).toList[j]? = some ((#[.string ⟨#[]⟩, .string ⟨#[]⟩, .bool false] : Array Value)[j % 3]!) := by
      have hj2 : j < n * (#[.string ⟨#[]⟩, .string ⟨#[]⟩, .bool false] : Array Value).size := hj
      simp only [Builtin.zeroCells, Array.getElem?_toList, Array.getElem?_map, Array.getElem?_range, hj2, if_true, Option.map_some]
      rfl
    rw [hz]
    have hr : j % 3 = 0 ∨ j % 3 = 1 ∨ j % 3 = 2 := by omega
    rcases hr with hr | hr | hr
    · rw [hr, show j = j / 3 * 3 by omega, c0]; rfl
    · rw [hr, show j = j / 3 * 3 + 1 by omega, c1]; rfl
    · rw [hr, show j = j / 3 * 3 + 2 by omega, c2]; rfl
  · rw [List.getElem?_eq_none (by omega), List.getElem?_eq_none (by omega)]
theorem zeroV (w : World) : (zeroValue 38).run Try.prog w = .ok (.agg #[.string ⟨#[]⟩, .string ⟨#[]⟩, .bool false]) w := by kernel_rfl
/-- what lies from i on is emptied -/
theorem run_clear {w : World} {g : Nat} {d : List Pair} {T : List Value} (h : At w g d T) (i : Nat) (hi : i < d.length) :
    ∃ w', (∀ ty c, (Builtin.clear_ #[23] ty #[.slice (some ⟨g, i * 3, none⟩) (d.length - i) c]).run Try.prog w = .ok (.tuple #[]) w') ∧ At w' g (d.take i ++ List.replicate (d.length - i) zeroP) T ∧ Kept (only g) w w' := by
  have hd := cells_length d
  have hcl : (cells (List.replicate (d.length - i) zeroP)).length = (d.length - i) * 3 := by rw [cells_length, List.length_replicate]
  have hst := run_storeCells_at Try.prog g (i * 3) 38 (cells (List.replicate (d.length - i) zeroP)) 0 (cells d ++ T).toArray w h (by simp only [List.size_toArray, List.length_append]; omega) (WalkStoIns.ones _)
  refine ⟨_, fun ty c => ?_, ?_, WideCopy.kept_setRow w g (((cells d ++ T).toArray.toList.take (i * 3 + 0) ++ cells (List.replicate (d.length - i) zeroP) ++ (cells d ++ T).toArray.toList.drop (i * 3 + 0 + (cells (List.replicate (d.length - i) zeroP)).length))).toArray⟩
  · have hn : ¬ d.length - i = 0 := by omega
    generalize hN : d.length - i = n at *
    cases n with
    | zero => exact absurd rfl hn
    | succ n =>
      have hz := zero_cells (n + 1)
      simp only [Builtin.clear_, List.getElem?_toArray, List.getElem?_cons_zero, Sem.run_bind, run_underlying Try.underlying23, Result.andThen_ok, zeroV, Value.cells]
      rw [hz, hst]
      rfl
  · have h2 := setRow_heap w g _ (((cells d ++ T).toArray.toList.take (i * 3 + 0) ++ cells (List.replicate (d.length - i) zeroP) ++ (cells d ++ T).toArray.toList.drop (i * 3 + 0 + (cells (List.replicate (d.length - i) zeroP)).length))).toArray _ _ h
    have e : (cells d ++ T).toArray.toList.take (i * 3 + 0) ++ cells (List.replicate (d.length - i) zeroP) ++ (cells d ++ T).toArray.toList.drop (i * 3 + 0 + (cells (List.replicate (d.length - i) zeroP)).length) = cells (d.take i ++ List.replicate (d.length - i) zeroP) ++ T := by
      rw [cells_append, WalkStoIns.cells_take, hcl]
      simp only [Nat.add_zero]
      congr 1
      · rw [List.take_append_of_le_length (by omega)]
      · rw [show i * 3 + (d.length - i) * 3 = (cells d).length by omega, List.drop_left]
    rw [e] at h2 ⊢
    exact h2

/-! the first that is so -/
def Index (f : Pair → Bool) (l : List Pair) (w : World) (e : Ending) (w' : World) : Prop :=
  ((∃ (i : Nat) (p : Pair), l[i]? = some p ∧ (∀ q ∈ l.take i, f q = false) ∧ f p = true ∧ e = .returned (.int .i64 (i : Int))) ∨ ((∀ q ∈ l, f q = false) ∧ e = .returned (.int .i64 (-1)))) ∧ Below w.heap.size w w'

set_option maxHeartbeats 4000000 in
set_option maxRecDepth 100000 in
theorem index_any (l : List Pair) (a : Option Addr) (n cap : Nat) (w : World) (hr : Wide 3 w a n cap (cells l)) (hn : n ≤ 1000000) (g : FuncId) (caps : Array Value) (hg : Enters Try.prog g) (f : Pair → Bool)
    (hf : ∀ (p : Pair) (w1 : World), Below w.heap.size w w1 → Calls Try.prog g (#[.agg #[.string p.key, .string p.val, .bool p.gone]] ++ caps) w1 fun e w' => e = .returned (.bool (f p)) ∧ Below w1.heap.size w1 w') :
    Calls Try.prog 37 #[.slice a n cap, .func (.func g) #[] caps] w fun e w' => Index f l w e w' := by
  have hln := PairRows.len_of hr
  have HR : Hid (Wide 3 w a n cap (cells l)) := hr
  have HN : Hid (l.length = n) := hln
  have HF : Hid (∀ (p : Pair) (w1 : World), Below w.heap.size w w1 → Calls Try.prog g (#[.agg #[.string p.key, .string p.val, .bool p.gone]] ++ caps) w1 fun e w' => e = .returned (.bool (f p)) ∧ Below w1.heap.size w1 w') := hf
  have a26 := aggP
  have z26 := sizeP
  clear hr hln hf
  go_enter Try.func37, Try.ntmps37
  go_upto_region 2 with fail
  go_loopw [8] (fun kv wr => ∃ k : Nat, k ≤ n ∧ kv = .int .i64 (k : Int) ∧ Hid (∀ q ∈ l.take k, f q = false) ∧ Hid (Below w.heap.size w wr)) (fun kv _ => n - (intOf kv).toNat)
  case atStart => exact ⟨0, Nat.zero_le _, rfl, (fun q hq => by cases hq), Below.refl _ _⟩
  case round =>
    obtain ⟨k, hk, rfl, HA, HB⟩ := hrel
    by_cases hlt : k < n
    · have i1 : (k : Int) < (n : Int) := by omega
      have hkl : k < l.length := by have := HN.out; omega
      obtain ⟨b1, off1, rfl, _⟩ := (HR.out.below HB.out).2.2 (by omega)
      obtain ⟨p0, p1, p2⟩ := PairRows.at_three (HR.out.below HB.out) k hkl
      have HX1 : Hid (f l[k] = false → ∀ q ∈ l.take (k + 1), f q = false) := fun h => Stores.ahead_next (P := fun q => f q = false) k hkl HA.out h
      have HX2 : Hid (l[k]? = some l[k]) := List.getElem?_eq_getElem hkl
      have cF := HF.out l[k] wr HB.out
      generalize l[k] = x at p0 p1 p2 HX1 HX2 cF
      obtain ⟨x0, x1, x2⟩ := x
      simp only at p0 p1 p2 cF
      clear hkl
      cases hfx : f ⟨x0, x1, x2⟩ with
      | false =>
        rw [hfx] at cF
        have HY : Hid (∀ q ∈ l.take (k + 1), f q = false) := HX1.out hfx
        clear hfx HX1 HX2
        go_wp2_with (rw [hg, Oper.upon_enter]; refine cF.mono ?_; rintro e w5 ⟨rfl, b5⟩; have HB5 : Hid (Below w.heap.size w w5) := bt HB.out b5; clear b5)
        go_roundw
        case rel => exact ⟨k + 1, by omega, by go_num, HY, HB5⟩
        case measure => simp [intOf]; omega
      | true =>
        rw [hfx] at cF
        have HY : Hid (f ⟨x0, x1, x2⟩ = true) := hfx
        clear hfx HX1
        go_wp2_with (rw [hg, Oper.upon_enter]; refine cF.mono ?_; rintro e w5 ⟨rfl, b5⟩; have HB5 : Hid (Below w.heap.size w w5) := bt HB.out b5; clear b5)
        go_ret
        exact ⟨.inl ⟨k, _, HX2.out, HA.out, HY.out, rfl⟩, HB5.out⟩
    · obtain rfl : k = n := by omega
      have HE : Hid (∀ q ∈ l, f q = false) := by
        have h := HA.out
        rw [List.take_of_length_le (by have := HN.out; omega)] at h
        exact h
      have i1 : ¬ (k : Int) < (k : Int) := by omega
      clear HA
      go_wp2_with fail
      go_ret
      exact ⟨.inr ⟨HE.out, rfl⟩, HB.out⟩

/-! those that are gone are left out -/
abbrev isGone : Value := .func (.func 53) #[] #[]
theorem isGone_any (x0 x1 : ByteArray) (x2 : Bool) (w : World) : Calls Try.prog 53 #[.agg #[.string x0, .string x1, .bool x2]] w fun e w' => e = .returned (.bool x2) ∧ Below w.heap.size w w' := by
  have b0 : Below w.heap.size w (w.alloc (.cells #[.string x0, .string x1, .bool x2] 38)) := (Below.refl _ _).alloc (Nat.le_refl _) _
  go_enter Try.func53, Try.ntmps53
  go_wp2_with fail
  go_ret
  exact ⟨rfl, b0⟩
/-- the first j looked at, i of them there, those behind j as they were -/
structure Left (f : Pair → Bool) (d : List Pair) (i j : Nat) (dk : List Pair) : Prop where
  len : dk.length = d.length
  low : dk.take i = (d.take j).filter f
  cnt : ((d.take j).filter f).length = i
  high : dk.drop j = d.drop j
theorem Left.at {f : Pair → Bool} {d dk : List Pair} {i j : Nat} (h : Left f d i j dk) {k : Nat} (hk : j ≤ k) : dk[k]? = d[k]? := by
  have := congrArg (fun l => l[k - j]?) h.high
  simp only [List.getElem?_drop] at this
  rw [show j + (k - j) = k by omega] at this
  exact this
theorem Left.skip {f : Pair → Bool} {d dk : List Pair} {i j : Nat} {p : Pair} (h : Left f d i j dk) (hp : d[j]? = some p) (hf : f p = false) : Left f d i (j + 1) dk := by
  obtain ⟨hj, rfl⟩ := List.getElem?_eq_some_iff.1 hp
  have e : (d.take (j + 1)).filter f = (d.take j).filter f := by rw [List.take_succ_eq_append_getElem hj, List.filter_append]; simp [hf]
  refine ⟨h.len, by rw [e]; exact h.low, by rw [e]; exact h.cnt, ?_⟩
  rw [← List.drop_drop, ← List.drop_drop, h.high]
theorem Left.keep {f : Pair → Bool} {d dk : List Pair} {i j : Nat} {p : Pair} (h : Left f d i j dk) (hp : d[j]? = some p) (hf : f p = true) (hij : i ≤ j) : Left f d (i + 1) (j + 1) (dk.set i p) := by
  obtain ⟨hj, rfl⟩ := List.getElem?_eq_some_iff.1 hp
  have e : (d.take (j + 1)).filter f = (d.take j).filter f ++ [d[j]] := by rw [List.take_succ_eq_append_getElem hj, List.filter_append]; simp [hf]
  have hl := h.len
  refine ⟨by simpa using hl, ?_, by rw [e, List.length_append, h.cnt]; rfl, ?_⟩
  · rw [e, ← h.low, List.take_set, List.take_succ_eq_append_getElem (by omega), List.set_append_right _ _ (by rw [List.length_take]; omega), List.length_take, show i - min i dk.length = 0 by omega]
    rfl
  · rw [List.drop_set, if_pos (by omega), ← List.drop_drop, ← List.drop_drop, h.high]

/-- what is left in place: the first m of the row -/
def Cut (l : List Pair) (d : List Pair) (T : List Value) (g cap : Nat) (w : World) (e : Ending) (w' : World) : Prop :=
  e = .returned (.slice (some ⟨g, 0, none⟩) l.length cap) ∧ (∃ d', d'.length = d.length ∧ d'.take l.length = l ∧ At w' g d' T) ∧ Kept (only g) w w'
def stays (p : Pair) : Bool := !p.gone
theorem enters3 : Enters Try.prog 53 := enters_of Try.func53 (by kernel_rfl) rfl

set_option maxHeartbeats 4000000 in
set_option maxRecDepth 100000 in
theorem delete_some (d : List Pair) (T : List Value) (g cap : Nat) (w : World) (hL : At w g d T) (hd : d.length ≤ 1000000) (hcap : d.length ≤ cap) (hc6 : cap ≤ maxLen) :
    Calls Try.prog 52 #[.slice (some ⟨g, 0, none⟩) d.length cap, isGone] w fun e w' => Cut (d.filter stays) d T g cap w e w' := by
  have a26 := aggP
  have z26 := sizeP
  have hW : Wide 3 w (some ⟨g, 0, none⟩) d.length cap (cells d) := ⟨cells_length d, hcap, fun _ => ⟨g, 0, rfl, fun j u hj => by
    rw [Nat.zero_add, Lies.cell hL, List.getElem?_append_left (List.getElem?_eq_some_iff.1 hj).1]
    exact hj⟩⟩
  have cI := index_any d (some ⟨g, 0, none⟩) d.length cap w hW hd 53 #[] enters3 (fun p => p.gone) (fun p w1 _ => isGone_any p.key p.val p.gone w1)
  have HL : Hid (At w g d T) := hL
  have hc63 : cap ≤ 9223372036854775807 := by unfold maxLen at hc6; exact hc6
  generalize hN : d.length = N at *
  have HN : Hid (d.length = N) := hN
  clear hL hW hN hc6
  go_enter Try.func52, Try.ntmps52
  go_wp2_with fail
  refine cI.mono ?_
  clear cI
  rintro e w1 ⟨hor, b1⟩
  have HL1 : Hid (At w1 g d T) := HL.out.below b1
  have HK1 : Hid (Kept (only g) w w1) := Kept.of_below _ b1
  clear b1 HL
  rcases hor with ⟨i, p, hp, hah, hgone, rfl⟩ | ⟨hall, rfl⟩
  · have hgone : p.gone = true := hgone
    have hah : ∀ q ∈ d.take i, q.gone = false := hah
    have hiN : i < N := by have := (List.getElem?_eq_some_iff.1 hp).1; have := HN.out; omega
    have hfil : (d.take i).filter stays = d.take i := List.filter_eq_self.2 fun q hq => by show (!q.gone) = true; rw [hah q hq]; rfl
    have HS : Hid (Left stays d i (i + 1) d) := by
      have h0 : Left stays d i i d := ⟨rfl, hfil.symm, by rw [hfil, List.length_take, HN.out]; omega, rfl⟩
      exact h0.skip hp (by show (!p.gone) = false; rw [hgone]; decide)
    have i0 : ((i : Int) == -1) = false := by simp
    have i9 : ¬ (i : Int) = -1 := by omega
    clear hp hah hgone hfil
    go_upto_region 5 with fail
    go_loopw [5, 6, 7] (fun iv jv _ wr => ∃ (i j : Nat) (dk : List Pair), i < j ∧ j ≤ N ∧ iv = .int .i64 (i : Int) ∧ jv = .int .i64 (j : Int) ∧ Hid (Left stays d i j dk) ∧ Hid (At wr g dk T) ∧ Hid (Kept (only g) w wr)) (fun _ jv _ _ => N - (intOf jv).toNat)
    case atStart => exact ⟨i, i + 1, d, by omega, by omega, rfl, by go_num, HS, HL1, HK1⟩
    clear HS HL1 HK1 i0 i9
    case round =>
      obtain ⟨i, j, dk, hij, hj, rfl, rfl, HS, HLk, HKk⟩ := hrel
      by_cases hlt : j < N
      · have j1 : (j : Int) < (N : Int) := by omega
        obtain ⟨x, hx⟩ : ∃ x, d[j]? = some x := ⟨d[j]'(by have := HN.out; omega), List.getElem?_eq_getElem _⟩
        have hxk : dk[j]? = some x := by rw [HS.out.at (Nat.le_refl _)]; exact hx
        obtain ⟨p0, p1, p2⟩ := HLk.out.cell hxk
        have HX1 : Hid (x.gone = true → Left stays d i (j + 1) dk) := fun h => HS.out.skip hx (by show (!x.gone) = false; rw [h]; rfl)
        have HX2 : Hid (x.gone = false → Left stays d (i + 1) (j + 1) (dk.set i x)) := fun h => HS.out.keep hx (by show (!x.gone) = true; rw [h]; rfl) (by omega)
        have HP : Hid (i < dk.length) := by have := HS.out.len; have := HN.out; show i < _; omega
        obtain ⟨x0, x1, x2⟩ := x
        simp only at p0 p1 p2 HX1 HX2
        clear hx hxk
        go_upto_region 8 with fail
        have b0 : Below wr.heap.size wr (wr.alloc (.cells #[.string x0, .string x1, .bool x2] 38)) := (Below.refl _ _).alloc (Nat.le_refl _) _
        have q0 : (wr.alloc (.cells #[.string x0, .string x1, .bool x2] 38)).cell? ⟨wr.heap.size, 0, none⟩ = some (.string x0) := by simp
        have q1 : (wr.alloc (.cells #[.string x0, .string x1, .bool x2] 38)).cell? ⟨wr.heap.size, 1, none⟩ = some (.string x1) := by simp
        have q2 : (wr.alloc (.cells #[.string x0, .string x1, .bool x2] 38)).cell? ⟨wr.heap.size, 2, none⟩ = some (.bool x2) := by simp
        have HL2 : Hid (At (wr.alloc (.cells #[.string x0, .string x1, .bool x2] 38)) g dk T) := HLk.out.below b0
        have HK2 : Hid (Kept (only g) w (wr.alloc (.cells #[.string x0, .string x1, .bool x2] 38))) := HKk.out.then b0
        clear p0 p1 p2 b0 HLk HKk
        generalize wr.alloc (.cells #[.string x0, .string x1, .bool x2] 38) = ws at HL2 HK2 q0 q1 q2 ⊢
        generalize wr.heap.size = pb at q0 q1 q2 ⊢
        have cF := isGone_any x0 x1 x2 ws
        cases x2 with
        | true =>
          have HY : Hid (Left stays d i (j + 1) dk) := HX1.out rfl
          clear HX1 HX2
          go_wp2_with fail
          refine cF.mono ?_
          rintro e w5 ⟨rfl, b5⟩
          have HL5 : Hid (At w5 g dk T) := HL2.out.below b5
          have HK5 : Hid (Kept (only g) w w5) := HK2.out.then b5
          clear b5 q0 q1 q2 HL2 HK2 cF
          go_wp2_with fail
          go_roundw
          case rel => exact ⟨i, j + 1, dk, by omega, by omega, rfl, by go_num, HY, HL5, HK5⟩
          case measure => simp [intOf]; omega
        | false =>
          have HY : Hid (Left stays d (i + 1) (j + 1) (dk.set i ⟨x0, x1, false⟩)) := HX2.out rfl
          clear HX1 HX2
          go_wp2_with fail
          refine cF.mono ?_
          rintro e w5 ⟨rfl, b5⟩
          have HL5 : Hid (At w5 g dk T) := HL2.out.below b5
          have HK5 : Hid (Kept (only g) w w5) := HK2.out.then b5
          have r0 := Lists.cell_below b5 q0
          have r1 := Lists.cell_below b5 q1
          have r2 := Lists.cell_below b5 q2
          have f0 : ∀ j, w5.frozen? ⟨g, j, none⟩ = false := fun j => Lies.frozen HL5.out j
          obtain ⟨y, hy⟩ : ∃ y, dk[i]? = some y := ⟨dk[i]'HP.out, List.getElem?_eq_getElem _⟩
          obtain ⟨c0, c1, c2⟩ := HL5.out.cell hy
          have i1 : (i : Int) < (N : Int) := by omega
          have HL6 : Hid (At (((w5.setCell ⟨g, i * 3, none⟩ (.string x0)).setCell ⟨g, i * 3 + 1, none⟩ (.string x1)).setCell ⟨g, i * 3 + 2, none⟩ (.bool false)) g (dk.set i ⟨x0, x1, false⟩) T) := HL5.out.put i HP.out ⟨x0, x1, false⟩
          have HK6 : Hid (Kept (only g) w (((w5.setCell ⟨g, i * 3, none⟩ (.string x0)).setCell ⟨g, i * 3 + 1, none⟩ (.string x1)).setCell ⟨g, i * 3 + 2, none⟩ (.bool false))) := WalkSwap.kept_put HK5.out (rfl : only g g) _ _ _ _ _ _
          clear b5 q0 q1 q2 HL2 HK2 cF hy HL5 HK5
          go_upto_region 10 with fail
          generalize World.setCell _ _ _ = w6 at HL6 HK6 ⊢
          clear r0 r1 r2 f0 c0 c1 c2
          go_wp2_with fail
          go_roundw
          case rel => exact ⟨i + 1, j + 1, _, by omega, by omega, by go_num, by go_num, HY, HL6, HK6⟩
          case measure => simp [intOf]; omega
      · obtain rfl : j = N := by omega
        have j1 : ¬ (j : Int) < (j : Int) := by omega
        have hl := HS.out.len
        have hln := HN.out
        obtain ⟨w6, hcl, hat, hk6⟩ := run_clear HLk.out i (by omega)
        rw [hl, hln] at hcl hat
        have hfull : (d.take j).filter stays = d.filter stays := by rw [List.take_of_length_le (by omega)]
        have hcnt := HS.out.cnt
        rw [hfull] at hcnt
        have HE : Hid (Cut (d.filter stays) d T g cap w (.returned (.slice (some ⟨g, 0, none⟩) i cap)) w6) := by
          refine ⟨by rw [hcnt], ⟨dk.take i ++ List.replicate (j - i) zeroP, ?_, ?_, hat⟩, HKk.out.trans hk6 fun _ q => .inl q⟩
          · rw [List.length_append, List.length_take, List.length_replicate]; omega
          · rw [hcnt, List.take_append_of_le_length (by rw [List.length_take]; omega), List.take_take, Nat.min_self, HS.out.low, hfull]
        have i1 : (i : Int) ≤ (j : Int) := by omega
        have i2 : ((j : Int) - (i : Int)).toNat = j - i := by omega
        have i3 : ¬ cap = i := by omega
        clear hl hln hat hk6 hfull hcnt HS HLk HKk
        go_wp2_with fail
        go_ret
        exact HE.out
  · have hall : ∀ q ∈ d, q.gone = false := hall
    have hfil : d.filter stays = d := List.filter_eq_self.2 fun q hq => by show (!q.gone) = true; rw [hall q hq]; rfl
    have HE : Hid (Cut (d.filter stays) d T g cap w (.returned (.slice (some ⟨g, 0, none⟩) N cap)) w1) := by
      rw [hfil]
      exact ⟨by rw [HN.out], ⟨d, rfl, List.take_length, HL1.out⟩, HK1.out⟩
    clear hall hfil
    go_wp2_with fail
    go_ret
    exact HE.out

/-- of none -/
theorem delete_none (cap : Nat) (w : World) : Calls Try.prog 52 #[.slice none 0 cap, isGone] w fun e w' => e = .returned (.slice none 0 cap) ∧ Below w.heap.size w w' := by
  have cI := index_any [] none 0 cap w (Wide.nil _ _ _ _) (by decide) 53 #[] enters3 (fun p => p.gone) (fun p w1 _ => isGone_any p.key p.val p.gone w1)
  go_enter Try.func52, Try.ntmps52
  go_wp2_with fail
  refine cI.mono ?_
  clear cI
  rintro e w1 ⟨hor, b1⟩
  rcases hor with ⟨i, p, hp, _⟩ | ⟨_, rfl⟩
  · simp at hp
  · go_wp2_with fail
    go_ret
    exact ⟨rfl, b1⟩
/-- a row of the call's own, cut to what is left -/
def CutO (l : List Pair) (B : Nat) (v : Value) (w : World) (e : Ending) (w' : World) : Prop :=
  ∃ v', e = .returned v' ∧ w'.ownsRow B 38 3 v' l.length (cells l) ∧ v'.ownBlock = v.ownBlock ∧ Kept (fun k => v.ownBlock = some k) w w'
theorem cut_owns {l d : List Pair} {T : List Value} {g cap B : Nat} {w : World} (hg : B ≤ g) (hc : l.length ≤ cap) (hm : cap ≤ maxLen) (hl : d.length * 3 + T.length = cap * 3) (hld : l.length ≤ d.length) {e : Ending} {w' : World} (h : Cut l d T g cap w e w') : CutO l B (.slice (some ⟨g, 0, none⟩) d.length cap) w e w' := by
  obtain ⟨rfl, ⟨d', h1, h2, h3⟩, k⟩ := h
  refine ⟨_, rfl, ?_, rfl, k.mono fun i hi => by rw [hi]; rfl⟩
  have := WalkStable.at_owns (m := l.length) h3 hg (by omega) hc hm (by omega)
  rw [h2] at this
  exact this
theorem delete_any (d : List Pair) (v : Value) (B : Nat) (w : World) (ho : w.ownsRow B 38 3 v d.length (cells d)) (hd : d.length ≤ 1000000) :
    Calls Try.prog 52 #[v, isGone] w fun e w' => CutO (d.filter stays) B v w e w' := by
  have hle := List.length_filter_le stays d
  by_cases h0 : 0 < d.length
  · obtain ⟨g, cap, T, rfl, hg, hat, hc, hm, hl⟩ := WalkStable.owns_at ho rfl h0
    exact (delete_some d T g cap w hat hd hc hm).mono fun e w' h => cut_owns hg (by omega) hm hl hle h
  · obtain rfl : d = [] := List.length_eq_zero_iff.1 (by omega)
    rcases ho.2 with ⟨rfl, _⟩ | ⟨g, cap, cur, rfl, hg, hh, hc, hm, hs, ht⟩
    · refine (delete_none 0 w).mono ?_
      rintro e w1 ⟨rfl, b1⟩
      exact ⟨_, rfl, World.ownsRow_nil _ _ _ _, rfl, Kept.of_below _ b1⟩
    · exact (delete_some [] cur.toList g cap w (by show WideCopy.Lies w g _ (cells [] ++ cur.toList); simpa [WideCopy.Lies, cells] using hh) (by decide) (Nat.zero_le _) hm).mono fun e w' h => cut_owns hg (Nat.zero_le _) hm (by simpa using hs) hle h

end Go.Proofs.Ytbepfeajaoaocaf.WalkDelete
