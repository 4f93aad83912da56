/-
  What package store does to a store of the call's own, for every argument: New, Put, Drop, Get, Len, All, Range.
-/
import Derived.Test.YtofaegcljcpceagGreatDoorWalkStoSet
import Derived.Deep.DeepMust
import Derived.Shelf.Abstract
namespace Go.Proofs.YtofaegcljcpceagGreatDoor.WalkSto
open Go.RowKit
open Lists (bt)
open Keeps (Kept owns_kept owns_base)
open Wides (Wide owns_wide)
open Stores (Pair find keyE putE putL getE getV withP Rising lt)
open PairRows (cells cells_append cells_length)
open Spots (Spot)
open WalkStoFind (aggP sizeP There Found)
open Errs (errv errv0 errv_pos)
open WalkStoIns (infoP)

abbrev St := WalkStoSet.St

theorem new_any (w : World) (B : Nat) (hB : B ≤ w.heap.size) : Calls Tryz.prog 37 #[] w fun e w' => ∃ b F, e = .returned (.pointer (some ⟨b, 0, none⟩)) ∧ St w' B b F [] ∧ (∀ k, F k → w.heap.size ≤ k) ∧ Below w.heap.size w w' := by
  go_enter Tryz.func37, Tryz.ntmps37
  go_wp2_with fail
  go_ret
  refine ⟨w.heap.size, fun k => k = w.heap.size ∨ (Value.slice none 0 0).ownBlock = some k, rfl, ⟨⟨.slice none 0 0, World.rowIs_alloc _ _ _ _ ?_, World.ownsRow_nil _ _ _ _, by simp [Value.ownBlock], fun k => Iff.rfl⟩, hB, List.Pairwise.nil, by simp⟩, ?_, (Below.refl _ _).alloc (Nat.le_refl _) _⟩
  · intro i hi
    match i, hi with
    | 0, _ => rfl
  · rintro k (rfl | hk)
    · exact Nat.le_refl _
    · simp [Value.ownBlock] at hk

theorem put_any {w : World} {B b : Nat} {F : Nat → Prop} {l : List Pair} (h : St w B b F l) (key val : ByteArray) (hk : key.size ≤ maxLen) (hv : val.size ≤ maxLen) :
    Calls Tryz.prog 85 #[.pointer (some ⟨b, 0, none⟩), .string key, .string val] w fun e w' => e = .returned (errv (putE l ⟨key, val, false⟩)) ∧ ∃ F', St w' B b F' (putL l ⟨key, val, false⟩) ∧ Kept F w w' ∧ ∀ k, F' k → F k ∨ w.heap.size ≤ k := by
  have cS := WalkStoSet.set_any h key val false hk hv
  clear h hk hv
  go_enter Tryz.func85, Tryz.ntmps85
  go_wp2_with fail
  refine cS.mono ?_
  rintro e w1 ⟨rfl, h1⟩
  clear cS
  go_wp2_with fail
  go_ret
  exact ⟨rfl, h1⟩

theorem drop_any {w : World} {B b : Nat} {F : Nat → Prop} {l : List Pair} (h : St w B b F l) (key : ByteArray) (hk : key.size ≤ maxLen) :
    Calls Tryz.prog 83 #[.pointer (some ⟨b, 0, none⟩), .string key] w fun e w' => e = .returned (errv (putE l ⟨key, ⟨#[]⟩, true⟩)) ∧ ∃ F', St w' B b F' (putL l ⟨key, ⟨#[]⟩, true⟩) ∧ Kept F w w' ∧ ∀ k, F' k → F k ∨ w.heap.size ≤ k := by
  have cS := WalkStoSet.set_any h key ⟨#[]⟩ true hk (Nat.zero_le _)
  clear h hk
  go_enter Tryz.func83, Tryz.ntmps83
  go_wp2_with fail
  refine cS.mono ?_
  rintro e w1 ⟨rfl, h1⟩
  clear cS
  go_wp2_with fail
  go_ret
  exact ⟨rfl, h1⟩

theorem len_any {w : World} {B b : Nat} {F : Nat → Prop} {l : List Pair} (h : St w B b F l) :
    Calls Tryz.prog 94 #[.pointer (some ⟨b, 0, none⟩)] w fun e w' => e = .returned (.int .i64 (l.length : Int)) ∧ Below w.heap.size w w' := by
  obtain ⟨v, r1, o1, _⟩ := h.core
  obtain ⟨a, cap, rfl, _⟩ := owns_wide o1
  have c0 := r1.cell (i := 0) (by omega)
  clear h r1 o1
  go_enter Tryz.func94, Tryz.ntmps94
  go_wp2_with fail
  go_ret
  exact ⟨rfl, Below.refl _ _⟩


theorem cell_three_new (w : World) (x y z : Value) (t : TypeId) : ∀ j u, [x, y, z][j]? = some u → (w.alloc (.cells #[x, y, z] t)).cell? ((⟨w.heap.size, 0, none⟩ : Addr).add j) = some u := by
  intro j u hj
  match j, hj with
  | 0, hj => simp at hj; subst hj; simp [Addr.add]
  | 1, hj => simp at hj; subst hj; simp [Addr.add]
  | 2, hj => simp at hj; subst hj; simp [Addr.add]

set_option maxHeartbeats 4000000 in
set_option maxRecDepth 100000 in
/-- those that are wanted; what is asked of each key is f -/
theorem those_any {w : World} {B b : Nat} {F : Nat → Prop} {l : List Pair} (h : St w B b F l) (g : FuncId) (caps : Array Value) (hg : Enters Tryz.prog g) (f : ByteArray → Bool)
    (hf : ∀ (k : ByteArray) (w1 : World), Below w.heap.size w w1 → Calls Tryz.prog g (#[.string k] ++ caps) w1 fun e w' => e = .returned (.bool (f k)) ∧ Below w1.heap.size w1 w') :
    Calls Tryz.prog 54 #[.pointer (some ⟨b, 0, none⟩), .func (.func g) #[] caps] w fun e w' => ∃ v, e = .returned v ∧ w'.ownsRow w.heap.size 31 3 v (l.filter fun p => f p.key).length (cells (l.filter fun p => f p.key)) ∧ Below w.heap.size w w' := by
  have hris := h.rising
  obtain ⟨v, r1, o1, _⟩ := h.core
  obtain ⟨a, cap, rfl, hw⟩ := owns_wide o1
  have c0 := r1.cell (i := 0) (by omega)
  have hlen := hris.2
  have HW : Hid (Wide 3 w a l.length cap (cells l)) := hw
  have HF : Hid (∀ (k : ByteArray) (w1 : World), Below w.heap.size w w1 → Calls Tryz.prog g (#[.string k] ++ caps) w1 fun e w' => e = .returned (.bool (f k)) ∧ Below w1.heap.size w1 w') := hf
  obtain ⟨i0, hi, hz0, hz1, hz2⟩ := info_parts infoP
  have a26 := aggP
  have z26 := sizeP
  generalize hN : l.length = N at *
  have HN : Hid (l.length = N) := hN
  clear h r1 o1 hw hris hf hN
  go_enter Tryz.func54, Tryz.ntmps54
  go_wp2_with fail
  go_loopw [5, 13] (fun s5 s13 wr => ∃ (k : Nat) (m : List Pair), k ≤ N ∧ s13 = .int .i64 (k : Int) ∧ Hid (m = (l.take k).filter fun p => f p.key) ∧ wr.ownsRow w.heap.size 31 3 s5 m.length (cells m) ∧ Below w.heap.size w wr) (fun _ s13 _ => N - (intOf s13).toNat)
  case atStart => exact ⟨0, [], Nat.zero_le _, rfl, rfl, World.ownsRow_nil _ _ _ _, Below.refl _ _⟩
  case round =>
    obtain ⟨k, m, hk, rfl, HM, hown, hb⟩ := hrel
    by_cases hlt : k < N
    · have i1 : (k : Int) < (N : Int) := by omega
      have hkl : k < l.length := by have := HN.out; omega
      obtain ⟨b1, off1, rfl, _⟩ := (HW.out.below hb).2.2 (by omega)
      obtain ⟨p0, p1, p2⟩ := PairRows.at_three (HW.out.below hb) k hkl
      have HX : Hid ((l.take (k + 1)).filter (fun p => f p.key) = (l.take k).filter (fun p => f p.key) ++ (if f (l[k]).key = true then [l[k]] else [])) := Spots.filter_next (fun p => f p.key) k hkl
      have HML : Hid (m.length ≤ k) := by show _ ≤ _; rw [HM.out]; exact Spots.filter_len _ _ _
      generalize l[k] = x at p0 p1 p2 HX
      obtain ⟨x0, x1, x2⟩ := x
      simp only at p0 p1 p2 HX
      have HO : Hid (wr.ownsRow w.heap.size 31 3 u5 m.length (cells m)) := hown
      have HB : Hid (Below w.heap.size w wr) := hb
      clear hown hb hkl
      go_upto_region 5 with fail
      have HB2 : Hid (Below w.heap.size w (wr.alloc (.cells #[.string x0, .string x1, .bool x2] 31))) := HB.out.alloc HB.out.size _
      have HO2 : Hid ((wr.alloc (.cells #[.string x0, .string x1, .bool x2] 31)).ownsRow w.heap.size 31 3 u5 m.length (cells m)) := HO.out.alloc _
      have q0 : (wr.alloc (.cells #[.string x0, .string x1, .bool x2] 31)).cell? ⟨wr.heap.size, 0, none⟩ = some (.string x0) := by simp
      have q1 : (wr.alloc (.cells #[.string x0, .string x1, .bool x2] 31)).cell? ⟨wr.heap.size, 1, none⟩ = some (.string x1) := by simp
      have q2 : (wr.alloc (.cells #[.string x0, .string x1, .bool x2] 31)).cell? ⟨wr.heap.size, 2, none⟩ = some (.bool x2) := by simp
      clear p0 p1 p2 HO HB
      generalize wr.alloc (.cells #[.string x0, .string x1, .bool x2] 31) = ws at HB2 HO2 q0 q1 q2 ⊢
      generalize wr.heap.size = pb at q0 q1 q2 ⊢
      have cF := HF.out x0 ws HB2.out
      cases hfx : f x0 with
      | false =>
        rw [hfx] at cF
        have HY : Hid (m = (l.take (k + 1)).filter fun p => f p.key) := by show _ = _; rw [HX.out, hfx, HM.out]; simp
        clear hfx HX
        go_wp2_with (rw [hg, Oper.upon_enter]; refine cF.mono ?_; rintro e w5 ⟨rfl, b5⟩)
        go_roundw
        case rel => exact ⟨k + 1, m, by omega, by go_num, HY, owns_kept HO2.out (Kept.of_below (fun _ => False) b5) fun _ _ q => q, bt HB2.out b5⟩
        case measure => simp [intOf]; omega
      | true =>
        rw [hfx] at cF
        have HY : Hid (m ++ [(⟨x0, x1, x2⟩ : Pair)] = (l.take (k + 1)).filter fun p => f p.key) := by show _ = _; rw [HX.out, hfx, HM.out]; simp
        clear hfx HX
        go_upto_region 6 with (rw [hg, Oper.upon_enter]; refine cF.mono ?_; rintro e w5 ⟨rfl, b5⟩)
        have HO5 : Hid (w5.ownsRow w.heap.size 31 3 u5 m.length (cells m)) := owns_kept HO2.out (Kept.of_below (fun _ => False) b5) fun _ _ q => q
        have HB5 : Hid (Below w.heap.size w w5) := bt HB2.out b5
        have r0 := Lists.cell_below b5 q0
        have r1 := Lists.cell_below b5 q1
        have r2 := Lists.cell_below b5 q2
        have hml := HML.out
        clear b5 q0 q1 q2 cF HO2 HB2
        go_wp2_with (at_builtin; go_must (refine wpList_append_own _ rfl (.tmp 21) (.tmp 23) 32 rfl w.heap.size 31 i0 (.agg #[.string ⟨#[]⟩, .string ⟨#[]⟩, .bool false]) 3 40 Tryz.underlying32 hi hz0 hz1 hz2 rfl (by decide) _ _ _ rfl (HO5.out.alloc _) ⟨_, 0, none⟩ 1 1 [.string x0, .string x1, .bool x2] rfl rfl (cell_three_new _ _ _ _ _) (fun u hu => by simp at hu; rcases hu with rfl | rfl | rfl <;> rfl) (by unfold maxLen; omega) (by omega) (by have := HB5.out.size; simp; omega) ?_); intro v1 wn o1 g1 z1; clear z1)
        have HBN : Hid (Below w.heap.size w wn) := (HB5.out.alloc HB5.out.size _).grown g1 (by have := HB5.out.size; simp; omega) (fun k hk => (HO5.out.lt k hk).1)
        have HON : Hid (wn.ownsRow w.heap.size 31 3 v1 (m ++ [(⟨x0, x1, x2⟩ : Pair)]).length (cells (m ++ [(⟨x0, x1, x2⟩ : Pair)]))) := by
          rw [cells_append, List.length_append]
          exact o1
        clear g1 o1 HO5 HB5
        go_roundw
        case rel => exact ⟨k + 1, m ++ [(⟨x0, x1, x2⟩ : Pair)], by omega, by go_num, HY, HON.out, HBN.out⟩
        case measure => simp [intOf]; omega
    · obtain rfl : k = N := by omega
      have HE : Hid (m = l.filter fun p => f p.key) := by show _ = _; rw [HM.out, List.take_of_length_le (by have := HN.out; omega)]
      have i1 : ¬ (k : Int) < (k : Int) := by omega
      go_wp2_with fail
      go_ret
      exact ⟨u5, rfl, by rw [← HE.out]; exact hown, hb⟩

theorem every_any (k : ByteArray) (w : World) : Calls Tryz.prog 55 #[.string k] w fun e w' => e = .returned (.bool true) ∧ Below w.heap.size w w' := by
  go_enter Tryz.func55, Tryz.ntmps55
  go_wp2_with fail
  go_ret
  exact ⟨rfl, Below.refl _ _⟩
theorem all_any {w : World} {B b : Nat} {F : Nat → Prop} {l : List Pair} (h : St w B b F l) :
    Calls Tryz.prog 30 #[.pointer (some ⟨b, 0, none⟩)] w fun e w' => ∃ v, e = .returned v ∧ w'.ownsRow w.heap.size 31 3 v l.length (cells l) ∧ Below w.heap.size w w' := by
  have eg : Enters Tryz.prog 55 := enters_of Tryz.func55 (by kernel_rfl) rfl
  have cT := those_any h 55 #[] eg (fun _ => true) fun k w1 _ => every_any k w1
  rw [Spots.filter_true] at cT
  clear h eg
  go_enter Tryz.func30, Tryz.ntmps30
  go_wp2_with fail
  refine cT.mono ?_
  rintro e w1 ⟨v, rfl, o1, b1⟩
  clear cT
  go_wp2_with fail
  go_ret
  exact ⟨v, rfl, o1, b1⟩


end Go.Proofs.YtofaegcljcpceagGreatDoor.WalkSto
