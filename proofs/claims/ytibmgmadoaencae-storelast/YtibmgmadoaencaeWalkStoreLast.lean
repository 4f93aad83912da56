/-
  The walk of StoreLast: what was put last of a key is there, if it was not dropped since; in two parts a range is what it is in all.
-/
import Derived.Test.YtibmgmadoaencaeWalkSto
import Derived.Test.YtibmgmadoaencaeWalkPairsSame
import Derived.Deep.CutBlock
import Derived.Deep.DeepMust
import Derived.Laws.AppendOwnNone
import Derived.StillTail
namespace Go.Proofs.Ytibmgmadoaencae.WalkStoreLast
open Go.RowKit
open Lists (bt)
open Keeps (Kept owns_kept)
open Wides (Wide)
open Stores (Pair lt find keyE putE putL getE getV range Rising withP)
open PairRows (cells cells_append)
open WalkPairsSame (aggP sizeP)
open WalkSto (St)
open Errs (errv errv0 errv_pos)

theorem st_below {w w' : World} {B b : Nat} {F : Nat → Prop} {l : List Pair} (h : St w B b F l) (k : Below w.heap.size w w') : St w' B b F l := h.kept (Kept.of_below (fun _ => False) k) fun _ _ q => q
theorem eq_yes (x : ByteArray) : (x.toList == x.toList) = true := beq_self_eq_true _
theorem eq_no {x y : ByteArray} (h : x ≠ y) : (x.toList == y.toList) = false := by
  rw [beq_eq_false_iff_ne]
  exact fun e => h (Stores.toList_inj e)
theorem infoP : (Try.prog.info? 37).map (fun i => (i.zero, i.size, i.bytes)) = some (some (.agg #[.string ⟨#[]⟩, .string ⟨#[]⟩, .bool false]), 3, 40) := by kernel_rfl

theorem gtr_run (a b : ByteArray) (r : Bool) (h : lt b a = r) (w : World) : (binOp .gtr 9 (.string a) (.string b)).run Try.prog w = .ok (.bool r) w := by
  have e : binOp .gtr 9 (.string a) (.string b) = pure (.bool !(Op.bytesLess a.toList b.toList || a.toList == b.toList)) := by simp [binOp, Op.stringOp]
  rw [e]
  have q : (!(Op.bytesLess a.toList b.toList || a.toList == b.toList)) = r := by
    rw [← h]
    cases h1 : lt b a
    · by_cases hab : a = b
      · subst hab
        simp
      · have h2 : lt a b = true := by
          cases h2 : lt a b with
          | true => rfl
          | false => exact absurd (Stores.lt_total h2 h1) hab
        rw [show Op.bytesLess a.toList b.toList = true from h2]
        rfl
    · rw [show Op.bytesLess a.toList b.toList = false from Stores.lt_asymm h1, eq_no (fun e => Stores.lt_ne h1 e.symm)]
      rfl
  rw [q]
  rfl

/-- what the statement keeps of a key is what is there -/
def Has (m : List Pair) (key : ByteArray) (is : Bool) (want : ByteArray) : Prop := is = decide (getE m key = 0) ∧ (is = true → want = getV m key)
theorem has_nil (key : ByteArray) : Has [] key false ⟨#[]⟩ := ⟨rfl, fun h => by cases h⟩
theorem has_put {m : List Pair} {p : Pair} {v : ByteArray} (h : putE m p = 0) (hv : p.gone = false → v = p.val) : Has (putL m p) p.key (!p.gone) v := by
  have e : putL m p = withP m p := if_pos h
  rw [e]
  unfold Has getE getV
  rw [Stores.find_with_same]
  cases hg : p.gone
  · exact ⟨by simp [hg], fun _ => by rw [hv hg]; simp [hg]⟩
  · exact ⟨by simp [hg], fun h => by cases h⟩
theorem has_other {m : List Pair} {p : Pair} {key v : ByteArray} {b : Bool} (h : putE m p = 0) (hk : p.key ≠ key) (hh : Has m key b v) : Has (putL m p) key b v := by
  have e : putL m p = withP m p := if_pos h
  rw [e]
  unfold Has getE getV at hh ⊢
  rw [Stores.find_with_other m p (fun e => hk e.symm)]
  exact hh
theorem has_no {m : List Pair} {p : Pair} (h : putE m p ≠ 0) : putL m p = m := if_neg h

theorem cells_of {w : World} {base g m n cap : Nat} {e : TypeId} {xs : List Value} (h : w.ownsRow base e 3 (.slice (some ⟨g, 0, none⟩) m cap) n xs) : ∀ j u, xs[j]? = some u → w.cell? ((⟨g, 0, none⟩ : Addr).add j) = some u := by
  intro j u hj
  have ea : (⟨g, 0, none⟩ : Addr).add j = ⟨g, 0 + j, none⟩ := by unfold Addr.add; split <;> simp_all
  rw [ea]
  obtain ⟨h1, h2⟩ := Wide.of_owns h
  have hl := (List.getElem?_eq_some_iff.1 hj).1
  obtain ⟨b, off, hb, hc⟩ := h2.2.2 (by have := h2.1; omega)
  obtain ⟨rfl, rfl⟩ : g = b ∧ 0 = off := by simpa using hb
  exact hc j u hj
theorem cells_one {l : List Pair} : ∀ u ∈ cells l, u.oneCell' = true := by
  induction l with
  | nil => intro u hu; cases hu
  | cons p l ih =>
    intro u hu
    simp only [cells, List.mem_cons] at hu
    rcases hu with rfl | rfl | rfl | hu
    · rfl
    · rfl
    · rfl
    · exact ih u hu
theorem fact1 : putE [] ⟨⟨#[97]⟩, ⟨#[120]⟩, false⟩ = 0 ∧ putL [] ⟨⟨#[97]⟩, ⟨#[120]⟩, false⟩ = [⟨⟨#[97]⟩, ⟨#[120]⟩, false⟩] := by decide +kernel
theorem fact2 : putE [⟨⟨#[97]⟩, ⟨#[120]⟩, false⟩] ⟨⟨#[97]⟩, ⟨#[121]⟩, false⟩ = 0 ∧ putL [⟨⟨#[97]⟩, ⟨#[120]⟩, false⟩] ⟨⟨#[97]⟩, ⟨#[121]⟩, false⟩ = [⟨⟨#[97]⟩, ⟨#[121]⟩, false⟩] := by decide +kernel
theorem fact3 : getE [⟨⟨#[97]⟩, ⟨#[121]⟩, false⟩] ⟨#[97]⟩ = 0 ∧ getV [⟨⟨#[97]⟩, ⟨#[121]⟩, false⟩] ⟨#[97]⟩ = ⟨#[121]⟩ := by decide +kernel

set_option maxHeartbeats 16000000 in
set_option maxRecDepth 100000 in
theorem walk (a0 : Option Addr) (n cap : Nat) (l : List Pair) (hz : l.length * 40 ≤ 140737488351232) (hw : ∀ e ∈ l, e.key.size ≤ maxLen ∧ e.val.size ≤ maxLen)
    (key : ByteArray) (hkey : key.size ≤ 140737488351232) (from_ : ByteArray) (hf : from_.size ≤ 140737488351232) (cut_ : ByteArray) (hc : cut_.size ≤ 140737488351232) (to_ : ByteArray) (ht : to_.size ≤ 140737488351232) (w : World) (hr : Wide 3 w a0 n cap (cells l)) :
    Calls Try.prog 4 #[.slice a0 n cap, .string key, .string from_, .string cut_, .string to_] w fun e w' => e = .returned (.bool true) ∧ Below w.heap.size w w' := by
  have hln := PairRows.len_of hr
  have HR : Hid (Wide 3 w a0 n cap (cells l)) := hr
  have HZ : Hid (∀ e ∈ l, e.key.size ≤ maxLen ∧ e.val.size ≤ maxLen) := hw
  have hn : n * 40 ≤ 140737488351232 := by omega
  have a26 := aggP
  have z26 := sizeP
  obtain ⟨i0, hi, hz0, hz1, hz2⟩ := info_parts infoP
  clear hr hw hz
  go_enter Try.func4, Try.ntmps4
  go_wp2_with fail
  refine (WalkSto.new_any w w.heap.size (Nat.le_refl _)).mono ?_
  rintro e w1 ⟨b0, F0, rfl, hs1, hF0, hb1⟩
  clear hF0
  have cP1 := WalkSto.put_any hs1 ⟨#[97]⟩ ⟨#[120]⟩ (by show 1 ≤ maxLen; unfold maxLen; omega) (by show 1 ≤ maxLen; unfold maxLen; omega)
  rw [fact1.1, fact1.2, errv0] at cP1
  go_wp2_with fail
  refine cP1.mono ?_
  rintro e w2 ⟨rfl, F2, hs2, hk2, _⟩
  have hb2 := hb1.trans (hk2.below (fun k q => (hs1.foot k q).1) hb1.size)
  clear cP1 hs1 hb1 hk2
  have cP2 := WalkSto.put_any hs2 ⟨#[97]⟩ ⟨#[121]⟩ (by show 1 ≤ maxLen; unfold maxLen; omega) (by show 1 ≤ maxLen; unfold maxLen; omega)
  rw [fact2.1, fact2.2, errv0] at cP2
  go_wp2_with fail
  refine cP2.mono ?_
  rintro e w3 ⟨rfl, F3, hs3, hk3, _⟩
  have hb3 := hb2.trans (hk3.below (fun k q => (hs2.foot k q).1) hb2.size)
  clear cP2 hs2 hb2 hk3
  have cN := WalkSto.len_any hs3
  go_wp2_with fail
  refine cN.mono ?_
  rintro e w4 ⟨rfl, b4⟩
  replace hs3 := st_below hs3 b4
  replace hb3 := hb3.trans (b4.mono hb3.size)
  clear cN b4
  have cG := WalkSto.get_any hs3 ⟨#[97]⟩ (by show 1 ≤ maxLen; unfold maxLen; omega)
  rw [fact3.1, fact3.2, errv0] at cG
  have hlen : ([⟨⟨#[97]⟩, ⟨#[121]⟩, false⟩] : List Pair).length = 1 := rfl
  rw [hlen]
  go_wp2_with fail
  refine cG.mono ?_
  rintro e w5 ⟨rfl, b5⟩
  replace hb3 := hb3.trans (b5.mono hb3.size)
  clear cG b5 hs3 hlen
  go_wp2_with fail
  refine (WalkSto.new_any w5 w.heap.size hb3.size).mono ?_
  rintro e w6 ⟨b, F6, rfl, hs6, _, b6⟩
  replace hb3 := hb3.trans (b6.mono hb3.size)
  clear b6
  go_wp2_with fail
  go_loopw [15, 16, 17, 18] (fun wt is i _ wr => ∃ (k : Nat) (F : Nat → Prop) (m : List Pair) (bb : Bool) (V : ByteArray), k ≤ n ∧ i = .int .i64 (k : Int) ∧ is = .bool bb ∧ wt = .string V ∧ Hid (Has m key bb V) ∧ Hid (St wr w.heap.size b F m) ∧ Hid (Below w.heap.size w wr)) (fun _ _ i _ _ => n - (intOf i).toNat)
  case atStart => exact ⟨0, F6, [], false, ⟨#[]⟩, Nat.zero_le _, rfl, rfl, rfl, has_nil key, hs6, hb3⟩
  case round =>
    obtain ⟨k, F, m, bb, V, hk, rfl, rfl, rfl, HH, HS, HB⟩ := hrel
    clear hs6 hb3
    by_cases hlt : k < n ∧ k < 60
    · have i1 : (k : Int) < (n : Int) := by omega
      have i2 : (k : Int) < 60 := by omega
      have hkl : k < l.length := by omega
      obtain ⟨b1, off1, rfl, _⟩ := HR.out.2.2 (by omega)
      have hP := fun w2 (hb : Below w.heap.size w w2) => PairRows.at_three (HR.out.below hb) k hkl
      obtain ⟨hx0, hx1⟩ := HZ.out _ (List.getElem_mem hkl)
      generalize l[k] = x at hP hx0 hx1
      obtain ⟨x0, x1, x2⟩ := x
      simp only at hP hx0 hx1
      have HP : Hid (∀ w2, Below w.heap.size w w2 → w2.cell? ⟨b1, off1 + k * 3, none⟩ = some (.string x0) ∧ w2.cell? ⟨b1, off1 + k * 3 + 1, none⟩ = some (.string x1) ∧ w2.cell? ⟨b1, off1 + k * 3 + 2, none⟩ = some (.bool x2)) := hP
      obtain ⟨p0, p1, p2⟩ := hP wr HB.out
      clear hkl hP
      cases x2
      · have cS := fun w2 (hs : St w2 w.heap.size b F m) => WalkSto.put_any hs x0 x1 hx0 hx1
        go_upto_region 16 with fail
        refine wp_region_still_tail 11 (by kernel_rfl) (by kernel_rfl) ?_
        rw [show ({ wr with drawn := wr.drawn + 1 } : World) = wr.drew from rfl]
        simp only [List.take_succ_cons, List.take_zero, List.drop_succ_cons, List.drop_zero]
        repeat still_step
        refine wpStill_nil ?_
        have hs6 := st_below HS.out ((Below.refl _ _).drew)
        have hb6 : Below w.heap.size w wr.drew := HB.out.drew
        clear HS HB p0 p1 p2
        generalize wr.drew = wd at hs6 hb6 ⊢
        go_wp2_with fail
        refine (cS _ hs6).mono ?_
        rintro e w7 ⟨rfl, F', hs7, hk7, _⟩
        have hb7 := hb6.trans (hk7.below (fun k q => (hs6.foot k q).1) hb6.size)
        clear hs6 hb6 hk7 cS
        obtain ⟨p0, p1, p2⟩ := HP.out w7 hb7
        by_cases hE : putE m ⟨x0, x1, false⟩ = 0
        · rw [hE, errv0]
          by_cases hk2 : x0 = key
          · subst hk2
            have HN : Hid (Has (putL m ⟨x0, x1, false⟩) x0 (!false) x1) := has_put (p := ⟨x0, x1, false⟩) hE (fun h => by first | rfl | cases h)
            have q1 := eq_yes x0
            clear hE HH
            generalize putL m ⟨x0, x1, false⟩ = m' at hs7 HN
            have HS7 : Hid (St w7 w.heap.size b F' m') := hs7
            have HB7 : Hid (Below w.heap.size w w7) := hb7
            clear hs7 hb7
            go_wp2_with fail
            go_roundw
            case rel => exact ⟨k + 1, F', m', _, x1, by omega, by go_num, rfl, rfl, HN, HS7, HB7⟩
            case measure => simp [intOf]; omega
          · have HN : Hid (Has (putL m ⟨x0, x1, false⟩) key bb V) := has_other (p := ⟨x0, x1, false⟩) hE hk2 HH.out
            have q1 := eq_no hk2
            clear hE HH hk2
            generalize putL m ⟨x0, x1, false⟩ = m' at hs7 HN
            have HS7 : Hid (St w7 w.heap.size b F' m') := hs7
            have HB7 : Hid (Below w.heap.size w w7) := hb7
            clear hs7 hb7
            go_wp2_with fail
            go_roundw
            case rel => exact ⟨k + 1, F', m', bb, V, by omega, by go_num, rfl, rfl, HN, HS7, HB7⟩
            case measure => simp [intOf]; omega
        · rw [errv_pos _ hE]
          rw [has_no hE] at hs7
          have HS7 : Hid (St w7 w.heap.size b F' m) := hs7
          have HB7 : Hid (Below w.heap.size w w7) := hb7
          clear hE hs7 hb7
          generalize putE m ⟨x0, x1, false⟩ = E
          go_wp2_with fail
          go_roundw
          case rel => exact ⟨k + 1, F', m, bb, V, by omega, by go_num, rfl, rfl, HH, HS7, HB7⟩
          case measure => simp [intOf]; omega
      · have cS := fun w2 (hs : St w2 w.heap.size b F m) => WalkSto.drop_any hs x0 hx0
        go_wp2_with fail
        refine (cS _ HS.out).mono ?_
        rintro e w7 ⟨rfl, F', hs7, hk7, _⟩
        have hb7 := HB.out.trans (hk7.below (fun k q => (HS.out.foot k q).1) HB.out.size)
        clear HS HB hk7 cS p0 p1 p2
        obtain ⟨p0, p1, p2⟩ := HP.out w7 hb7
        by_cases hE : putE m ⟨x0, ⟨#[]⟩, true⟩ = 0
        · rw [hE, errv0]
          by_cases hk2 : x0 = key
          · subst hk2
            have HN : Hid (Has (putL m ⟨x0, ⟨#[]⟩, true⟩) x0 (!true) x1) := has_put (p := ⟨x0, ⟨#[]⟩, true⟩) hE (fun h => by first | rfl | cases h)
            have q1 := eq_yes x0
            clear hE HH
            generalize putL m ⟨x0, ⟨#[]⟩, true⟩ = m' at hs7 HN
            have HS7 : Hid (St w7 w.heap.size b F' m') := hs7
            have HB7 : Hid (Below w.heap.size w w7) := hb7
            clear hs7 hb7
            go_wp2_with fail
            go_roundw
            case rel => exact ⟨k + 1, F', m', _, x1, by omega, by go_num, rfl, rfl, HN, HS7, HB7⟩
            case measure => simp [intOf]; omega
          · have HN : Hid (Has (putL m ⟨x0, ⟨#[]⟩, true⟩) key bb V) := has_other (p := ⟨x0, ⟨#[]⟩, true⟩) hE hk2 HH.out
            have q1 := eq_no hk2
            clear hE HH hk2
            generalize putL m ⟨x0, ⟨#[]⟩, true⟩ = m' at hs7 HN
            have HS7 : Hid (St w7 w.heap.size b F' m') := hs7
            have HB7 : Hid (Below w.heap.size w w7) := hb7
            clear hs7 hb7
            go_wp2_with fail
            go_roundw
            case rel => exact ⟨k + 1, F', m', bb, V, by omega, by go_num, rfl, rfl, HN, HS7, HB7⟩
            case measure => simp [intOf]; omega
        · rw [errv_pos _ hE]
          rw [has_no hE] at hs7
          have HS7 : Hid (St w7 w.heap.size b F' m) := hs7
          have HB7 : Hid (Below w.heap.size w w7) := hb7
          clear hE hs7 hb7
          generalize putE m ⟨x0, ⟨#[]⟩, true⟩ = E
          go_wp2_with fail
          go_roundw
          case rel => exact ⟨k + 1, F', m, bb, V, by omega, by go_num, rfl, rfl, HH, HS7, HB7⟩
          case measure => simp [intOf]; omega
    · have cG := WalkSto.get_any HS.out key (by unfold maxLen; omega)
      have HRi : Hid (Rising m ∧ m.length ≤ 60) := HS.out.rising
      have hq0 : (k < n ∧ ¬ k < 60) ∨ ¬ k < n := by omega
      clear hlt
      rcases hq0 with ⟨j1, j2⟩ | j1
      · have i1 : (k : Int) < (n : Int) := by omega
        have i2 : ¬ (k : Int) < 60 := by omega
        go_wp2_with fail
        refine cG.mono ?_
        rintro e w7 ⟨rfl, b7⟩
        have HS7 : Hid (St w7 w.heap.size b F m) := st_below HS.out b7
        have HB7 : Hid (Below w.heap.size w w7) := HB.out.trans (b7.mono HB.out.size)
        clear cG b7 HS HB
        have hq : (getE m key = 0 ∧ bb = true ∧ getV m key = V) ∨ (getE m key ≠ 0 ∧ bb = false) := by
          by_cases h : getE m key = 0
          · have h1 : bb = true := by rw [HH.out.1, decide_eq_true h]
            exact .inl ⟨h, h1, (HH.out.2 h1).symm⟩
          · exact .inr ⟨h, by rw [HH.out.1, decide_eq_false h]⟩
        clear HH
        generalize getV m key = G at hq
        generalize getE m key = E at hq
        rcases hq with ⟨rfl, rfl, rfl⟩ | ⟨hE, rfl⟩
        · rw [errv0]
          have q1 := eq_yes G
          go_upto_region 23 with fail
          by_cases hA : lt cut_ from_ = true
          · have e1 := gtr_run from_ cut_ true hA
            clear hA
            go_wp2_with fail
            go_ret
            exact ⟨rfl, HB7.out⟩
          have hA : lt cut_ from_ = false := by simpa using hA
          have e1 := gtr_run from_ cut_ false hA
          by_cases hC : lt to_ cut_ = true
          · have e2 := gtr_run cut_ to_ true hC
            clear hA hC
            go_wp2_with fail
            go_ret
            exact ⟨rfl, HB7.out⟩
          have hC : lt to_ cut_ = false := by simpa using hC
          have e2 := gtr_run cut_ to_ false hC
          have HQ : Hid (range m from_ cut_ ++ range m cut_ to_ = range m from_ to_) := Stores.range_parts HRi.out.1 hA hC
          have l1 : (range m from_ cut_).length ≤ 60 := Nat.le_trans (List.length_filter_le _ _) HRi.out.2
          have l2 : (range m cut_ to_).length ≤ 60 := Nat.le_trans (List.length_filter_le _ _) HRi.out.2
          have l3 : (range m from_ to_).length ≤ 60 := Nat.le_trans (List.length_filter_le _ _) HRi.out.2
          clear hA hC
          go_wp2_with fail
          refine (WalkSto.range_any HS7.out from_ cut_ (by unfold maxLen; omega) (by unfold maxLen; omega)).mono ?_
          rintro e w8 ⟨v8, rfl, o8, b8⟩
          have hs8 := st_below HS7.out b8
          have hb8 := HB7.out.trans (b8.mono HB7.out.size)
          have HF : Hid (∀ k, F k → k < w7.heap.size) := fun k hk => (HS7.out.foot k hk).2
          have s7 := HB7.out.size
          have s8 := b8.size
          clear HS7 HB7 b8
          go_wp2_with fail
          refine (WalkSto.range_any hs8 cut_ to_ (by unfold maxLen; omega) (by unfold maxLen; omega)).mono ?_
          rintro e w9 ⟨v9, rfl, o9, b9⟩
          have HO8 : Hid (w9.ownsRow w7.heap.size 37 3 v8 (range m from_ cut_).length (cells (range m from_ cut_))) := owns_kept o8 (Kept.of_below (fun _ => False) b9) fun _ _ q => q
          have HS9 : Hid (St w9 w.heap.size b F m) := st_below hs8 b9
          have HB9 : Hid (Below w.heap.size w w9) := hb8.trans (b9.mono hb8.size)
          have s9 := b9.size
          have o9' := o9
          clear hs8 hb8 b9 o8
          rcases o9'.2 with ⟨hv9, hl9⟩ | ⟨g9, cp9, cur9, hv9, _⟩
          · subst hv9
            rw [List.length_eq_zero_iff.1 hl9, List.append_nil] at HQ
            rw [HQ.out] at HO8
            clear o9 o9' hl9 HQ
            go_wp2_with (at_builtin; go_must (refine wpList_append_own_none rfl (.tmp 139) (.tmp 140) 29 rfl w7.heap.size 37 i0 3 Try.underlying29 hi _ _ _ rfl HO8.out rfl ?_))
            refine (WalkSto.range_any HS9.out from_ to_ (by unfold maxLen; omega) (by unfold maxLen; omega)).mono ?_
            rintro e w10 ⟨v10, rfl, o10, b10⟩
            have o8 := owns_kept HO8.out (Kept.of_below (fun _ => False) b10) fun _ _ q => q
            have hb10 := HB9.out.trans (b10.mono HB9.out.size)
            obtain ⟨a8, c8, rfl, hw8⟩ := Wides.owns_wide o8
            obtain ⟨a10, c10, rfl, hw10⟩ := Wides.owns_wide o10
            clear HO8 HS9 HB9 o8 o10 b10
            go_wp2_with fail
            refine (WalkPairsSame.pairs_same (range m from_ to_) a8 a10 _ c8 c10 w10 hw8 hw10 (by omega)).mono ?_
            rintro e w11 ⟨rfl, b11⟩
            have HBE : Hid (Below w.heap.size w w11) := hb10.trans (b11.mono hb10.size)
            clear hb10 b11 hw8 hw10
            go_wp2_with fail
            go_ret
            exact ⟨rfl, HBE.out⟩
          · subst hv9
            have hc9 : ∀ j u, (cells (range m cut_ to_))[j]? = some u → w9.cell? ((⟨g9, 0, none⟩ : Addr).add j) = some u := cells_of o9
            have HC9 : Hid (∀ j u, (cells (range m cut_ to_))[j]? = some u → w9.cell? ((⟨g9, 0, none⟩ : Addr).add j) = some u) := hc9
            clear o9 o9' hc9
            go_wp2_with (at_builtin; go_must (refine wpList_append_own _ rfl (.tmp 139) (.tmp 140) 29 rfl w7.heap.size 37 i0 (.agg #[.string ⟨#[]⟩, .string ⟨#[]⟩, .bool false]) 3 40 Try.underlying29 hi hz0 hz1 hz2 rfl (by decide) _ _ _ rfl HO8.out ⟨g9, 0, none⟩ _ cp9 (cells (range m cut_ to_)) rfl (by rw [PairRows.cells_length]) HC9.out cells_one (by unfold maxLen; omega) (by omega) (by omega) ?_); intro v1 wn o1 g1 z1; clear z1)
            have hkN : Kept (fun k => v8.ownBlock = some k) w9 wn := (Kept.refl _ _).grown g1 fun k hk => .inl hk
            have hsN : St wn w.heap.size b F m := HS9.out.kept hkN fun i hi h => by have h1 := (HO8.out.lt i h).1; have h2 := HF.out i hi; omega
            have hbN := HB9.out.trans (hkN.below (fun k hk => Nat.le_trans s7 (HO8.out.lt k hk).1) HB9.out.size)
            rw [← List.length_append, ← cells_append, HQ.out] at o1
            clear HO8 HS9 HB9 HC9 g1 hkN
            go_wp2_with fail
            refine (WalkSto.range_any hsN from_ to_ (by unfold maxLen; omega) (by unfold maxLen; omega)).mono ?_
            rintro e w10 ⟨v10, rfl, o10, b10⟩
            have o8 := owns_kept o1 (Kept.of_below (fun _ => False) b10) fun _ _ q => q
            have hb10 := hbN.trans (b10.mono hbN.size)
            obtain ⟨a8, c8, rfl, hw8⟩ := Wides.owns_wide o8
            obtain ⟨a10, c10, rfl, hw10⟩ := Wides.owns_wide o10
            clear hsN hbN o8 o10 b10 o1
            go_wp2_with fail
            refine (WalkPairsSame.pairs_same (range m from_ to_) a8 a10 _ c8 c10 w10 hw8 hw10 (by omega)).mono ?_
            rintro e w11 ⟨rfl, b11⟩
            have HBE : Hid (Below w.heap.size w w11) := hb10.trans (b11.mono hb10.size)
            clear hb10 b11 hw8 hw10
            go_wp2_with fail
            go_ret
            exact ⟨rfl, HBE.out⟩
        · rw [errv_pos _ hE]
          clear hE
          go_upto_region 23 with fail
          by_cases hA : lt cut_ from_ = true
          · have e1 := gtr_run from_ cut_ true hA
            clear hA
            go_wp2_with fail
            go_ret
            exact ⟨rfl, HB7.out⟩
          have hA : lt cut_ from_ = false := by simpa using hA
          have e1 := gtr_run from_ cut_ false hA
          by_cases hC : lt to_ cut_ = true
          · have e2 := gtr_run cut_ to_ true hC
            clear hA hC
            go_wp2_with fail
            go_ret
            exact ⟨rfl, HB7.out⟩
          have hC : lt to_ cut_ = false := by simpa using hC
          have e2 := gtr_run cut_ to_ false hC
          have HQ : Hid (range m from_ cut_ ++ range m cut_ to_ = range m from_ to_) := Stores.range_parts HRi.out.1 hA hC
          have l1 : (range m from_ cut_).length ≤ 60 := Nat.le_trans (List.length_filter_le _ _) HRi.out.2
          have l2 : (range m cut_ to_).length ≤ 60 := Nat.le_trans (List.length_filter_le _ _) HRi.out.2
          have l3 : (range m from_ to_).length ≤ 60 := Nat.le_trans (List.length_filter_le _ _) HRi.out.2
          clear hA hC
          go_wp2_with fail
          refine (WalkSto.range_any HS7.out from_ cut_ (by unfold maxLen; omega) (by unfold maxLen; omega)).mono ?_
          rintro e w8 ⟨v8, rfl, o8, b8⟩
          have hs8 := st_below HS7.out b8
          have hb8 := HB7.out.trans (b8.mono HB7.out.size)
          have HF : Hid (∀ k, F k → k < w7.heap.size) := fun k hk => (HS7.out.foot k hk).2
          have s7 := HB7.out.size
          have s8 := b8.size
          clear HS7 HB7 b8
          go_wp2_with fail
          refine (WalkSto.range_any hs8 cut_ to_ (by unfold maxLen; omega) (by unfold maxLen; omega)).mono ?_
          rintro e w9 ⟨v9, rfl, o9, b9⟩
          have HO8 : Hid (w9.ownsRow w7.heap.size 37 3 v8 (range m from_ cut_).length (cells (range m from_ cut_))) := owns_kept o8 (Kept.of_below (fun _ => False) b9) fun _ _ q => q
          have HS9 : Hid (St w9 w.heap.size b F m) := st_below hs8 b9
          have HB9 : Hid (Below w.heap.size w w9) := hb8.trans (b9.mono hb8.size)
          have s9 := b9.size
          have o9' := o9
          clear hs8 hb8 b9 o8
          rcases o9'.2 with ⟨hv9, hl9⟩ | ⟨g9, cp9, cur9, hv9, _⟩
          · subst hv9
            rw [List.length_eq_zero_iff.1 hl9, List.append_nil] at HQ
            rw [HQ.out] at HO8
            clear o9 o9' hl9 HQ
            go_wp2_with (at_builtin; go_must (refine wpList_append_own_none rfl (.tmp 139) (.tmp 140) 29 rfl w7.heap.size 37 i0 3 Try.underlying29 hi _ _ _ rfl HO8.out rfl ?_))
            refine (WalkSto.range_any HS9.out from_ to_ (by unfold maxLen; omega) (by unfold maxLen; omega)).mono ?_
            rintro e w10 ⟨v10, rfl, o10, b10⟩
            have o8 := owns_kept HO8.out (Kept.of_below (fun _ => False) b10) fun _ _ q => q
            have hb10 := HB9.out.trans (b10.mono HB9.out.size)
            obtain ⟨a8, c8, rfl, hw8⟩ := Wides.owns_wide o8
            obtain ⟨a10, c10, rfl, hw10⟩ := Wides.owns_wide o10
            clear HO8 HS9 HB9 o8 o10 b10
            go_wp2_with fail
            refine (WalkPairsSame.pairs_same (range m from_ to_) a8 a10 _ c8 c10 w10 hw8 hw10 (by omega)).mono ?_
            rintro e w11 ⟨rfl, b11⟩
            have HBE : Hid (Below w.heap.size w w11) := hb10.trans (b11.mono hb10.size)
            clear hb10 b11 hw8 hw10
            go_wp2_with fail
            go_ret
            exact ⟨rfl, HBE.out⟩
          · subst hv9
            have hc9 : ∀ j u, (cells (range m cut_ to_))[j]? = some u → w9.cell? ((⟨g9, 0, none⟩ : Addr).add j) = some u := cells_of o9
            have HC9 : Hid (∀ j u, (cells (range m cut_ to_))[j]? = some u → w9.cell? ((⟨g9, 0, none⟩ : Addr).add j) = some u) := hc9
            clear o9 o9' hc9
            go_wp2_with (at_builtin; go_must (refine wpList_append_own _ rfl (.tmp 139) (.tmp 140) 29 rfl w7.heap.size 37 i0 (.agg #[.string ⟨#[]⟩, .string ⟨#[]⟩, .bool false]) 3 40 Try.underlying29 hi hz0 hz1 hz2 rfl (by decide) _ _ _ rfl HO8.out ⟨g9, 0, none⟩ _ cp9 (cells (range m cut_ to_)) rfl (by rw [PairRows.cells_length]) HC9.out cells_one (by unfold maxLen; omega) (by omega) (by omega) ?_); intro v1 wn o1 g1 z1; clear z1)
            have hkN : Kept (fun k => v8.ownBlock = some k) w9 wn := (Kept.refl _ _).grown g1 fun k hk => .inl hk
            have hsN : St wn w.heap.size b F m := HS9.out.kept hkN fun i hi h => by have h1 := (HO8.out.lt i h).1; have h2 := HF.out i hi; omega
            have hbN := HB9.out.trans (hkN.below (fun k hk => Nat.le_trans s7 (HO8.out.lt k hk).1) HB9.out.size)
            rw [← List.length_append, ← cells_append, HQ.out] at o1
            clear HO8 HS9 HB9 HC9 g1 hkN
            go_wp2_with fail
            refine (WalkSto.range_any hsN from_ to_ (by unfold maxLen; omega) (by unfold maxLen; omega)).mono ?_
            rintro e w10 ⟨v10, rfl, o10, b10⟩
            have o8 := owns_kept o1 (Kept.of_below (fun _ => False) b10) fun _ _ q => q
            have hb10 := hbN.trans (b10.mono hbN.size)
            obtain ⟨a8, c8, rfl, hw8⟩ := Wides.owns_wide o8
            obtain ⟨a10, c10, rfl, hw10⟩ := Wides.owns_wide o10
            clear hsN hbN o8 o10 b10 o1
            go_wp2_with fail
            refine (WalkPairsSame.pairs_same (range m from_ to_) a8 a10 _ c8 c10 w10 hw8 hw10 (by omega)).mono ?_
            rintro e w11 ⟨rfl, b11⟩
            have HBE : Hid (Below w.heap.size w w11) := hb10.trans (b11.mono hb10.size)
            clear hb10 b11 hw8 hw10
            go_wp2_with fail
            go_ret
            exact ⟨rfl, HBE.out⟩
      · have i1 : ¬ (k : Int) < (n : Int) := by omega
        go_wp2_with fail
        refine cG.mono ?_
        rintro e w7 ⟨rfl, b7⟩
        have HS7 : Hid (St w7 w.heap.size b F m) := st_below HS.out b7
        have HB7 : Hid (Below w.heap.size w w7) := HB.out.trans (b7.mono HB.out.size)
        clear cG b7 HS HB
        have hq : (getE m key = 0 ∧ bb = true ∧ getV m key = V) ∨ (getE m key ≠ 0 ∧ bb = false) := by
          by_cases h : getE m key = 0
          · have h1 : bb = true := by rw [HH.out.1, decide_eq_true h]
            exact .inl ⟨h, h1, (HH.out.2 h1).symm⟩
          · exact .inr ⟨h, by rw [HH.out.1, decide_eq_false h]⟩
        clear HH
        generalize getV m key = G at hq
        generalize getE m key = E at hq
        rcases hq with ⟨rfl, rfl, rfl⟩ | ⟨hE, rfl⟩
        · rw [errv0]
          have q1 := eq_yes G
          go_upto_region 23 with fail
          by_cases hA : lt cut_ from_ = true
          · have e1 := gtr_run from_ cut_ true hA
            clear hA
            go_wp2_with fail
            go_ret
            exact ⟨rfl, HB7.out⟩
          have hA : lt cut_ from_ = false := by simpa using hA
          have e1 := gtr_run from_ cut_ false hA
          by_cases hC : lt to_ cut_ = true
          · have e2 := gtr_run cut_ to_ true hC
            clear hA hC
            go_wp2_with fail
            go_ret
            exact ⟨rfl, HB7.out⟩
          have hC : lt to_ cut_ = false := by simpa using hC
          have e2 := gtr_run cut_ to_ false hC
          have HQ : Hid (range m from_ cut_ ++ range m cut_ to_ = range m from_ to_) := Stores.range_parts HRi.out.1 hA hC
          have l1 : (range m from_ cut_).length ≤ 60 := Nat.le_trans (List.length_filter_le _ _) HRi.out.2
          have l2 : (range m cut_ to_).length ≤ 60 := Nat.le_trans (List.length_filter_le _ _) HRi.out.2
          have l3 : (range m from_ to_).length ≤ 60 := Nat.le_trans (List.length_filter_le _ _) HRi.out.2
          clear hA hC
          go_wp2_with fail
          refine (WalkSto.range_any HS7.out from_ cut_ (by unfold maxLen; omega) (by unfold maxLen; omega)).mono ?_
          rintro e w8 ⟨v8, rfl, o8, b8⟩
          have hs8 := st_below HS7.out b8
          have hb8 := HB7.out.trans (b8.mono HB7.out.size)
          have HF : Hid (∀ k, F k → k < w7.heap.size) := fun k hk => (HS7.out.foot k hk).2
          have s7 := HB7.out.size
          have s8 := b8.size
          clear HS7 HB7 b8
          go_wp2_with fail
          refine (WalkSto.range_any hs8 cut_ to_ (by unfold maxLen; omega) (by unfold maxLen; omega)).mono ?_
          rintro e w9 ⟨v9, rfl, o9, b9⟩
          have HO8 : Hid (w9.ownsRow w7.heap.size 37 3 v8 (range m from_ cut_).length (cells (range m from_ cut_))) := owns_kept o8 (Kept.of_below (fun _ => False) b9) fun _ _ q => q
          have HS9 : Hid (St w9 w.heap.size b F m) := st_below hs8 b9
          have HB9 : Hid (Below w.heap.size w w9) := hb8.trans (b9.mono hb8.size)
          have s9 := b9.size
          have o9' := o9
          clear hs8 hb8 b9 o8
          rcases o9'.2 with ⟨hv9, hl9⟩ | ⟨g9, cp9, cur9, hv9, _⟩
          · subst hv9
            rw [List.length_eq_zero_iff.1 hl9, List.append_nil] at HQ
            rw [HQ.out] at HO8
            clear o9 o9' hl9 HQ
            go_wp2_with (at_builtin; go_must (refine wpList_append_own_none rfl (.tmp 139) (.tmp 140) 29 rfl w7.heap.size 37 i0 3 Try.underlying29 hi _ _ _ rfl HO8.out rfl ?_))
            refine (WalkSto.range_any HS9.out from_ to_ (by unfold maxLen; omega) (by unfold maxLen; omega)).mono ?_
            rintro e w10 ⟨v10, rfl, o10, b10⟩
            have o8 := owns_kept HO8.out (Kept.of_below (fun _ => False) b10) fun _ _ q => q
            have hb10 := HB9.out.trans (b10.mono HB9.out.size)
            obtain ⟨a8, c8, rfl, hw8⟩ := Wides.owns_wide o8
            obtain ⟨a10, c10, rfl, hw10⟩ := Wides.owns_wide o10
            clear HO8 HS9 HB9 o8 o10 b10
            go_wp2_with fail
            refine (WalkPairsSame.pairs_same (range m from_ to_) a8 a10 _ c8 c10 w10 hw8 hw10 (by omega)).mono ?_
            rintro e w11 ⟨rfl, b11⟩
            have HBE : Hid (Below w.heap.size w w11) := hb10.trans (b11.mono hb10.size)
            clear hb10 b11 hw8 hw10
            go_wp2_with fail
            go_ret
            exact ⟨rfl, HBE.out⟩
          · subst hv9
            have hc9 : ∀ j u, (cells (range m cut_ to_))[j]? = some u → w9.cell? ((⟨g9, 0, none⟩ : Addr).add j) = some u := cells_of o9
            have HC9 : Hid (∀ j u, (cells (range m cut_ to_))[j]? = some u → w9.cell? ((⟨g9, 0, none⟩ : Addr).add j) = some u) := hc9
            clear o9 o9' hc9
            go_wp2_with (at_builtin; go_must (refine wpList_append_own _ rfl (.tmp 139) (.tmp 140) 29 rfl w7.heap.size 37 i0 (.agg #[.string ⟨#[]⟩, .string ⟨#[]⟩, .bool false]) 3 40 Try.underlying29 hi hz0 hz1 hz2 rfl (by decide) _ _ _ rfl HO8.out ⟨g9, 0, none⟩ _ cp9 (cells (range m cut_ to_)) rfl (by rw [PairRows.cells_length]) HC9.out cells_one (by unfold maxLen; omega) (by omega) (by omega) ?_); intro v1 wn o1 g1 z1; clear z1)
            have hkN : Kept (fun k => v8.ownBlock = some k) w9 wn := (Kept.refl _ _).grown g1 fun k hk => .inl hk
            have hsN : St wn w.heap.size b F m := HS9.out.kept hkN fun i hi h => by have h1 := (HO8.out.lt i h).1; have h2 := HF.out i hi; omega
            have hbN := HB9.out.trans (hkN.below (fun k hk => Nat.le_trans s7 (HO8.out.lt k hk).1) HB9.out.size)
            rw [← List.length_append, ← cells_append, HQ.out] at o1
            clear HO8 HS9 HB9 HC9 g1 hkN
            go_wp2_with fail
            refine (WalkSto.range_any hsN from_ to_ (by unfold maxLen; omega) (by unfold maxLen; omega)).mono ?_
            rintro e w10 ⟨v10, rfl, o10, b10⟩
            have o8 := owns_kept o1 (Kept.of_below (fun _ => False) b10) fun _ _ q => q
            have hb10 := hbN.trans (b10.mono hbN.size)
            obtain ⟨a8, c8, rfl, hw8⟩ := Wides.owns_wide o8
            obtain ⟨a10, c10, rfl, hw10⟩ := Wides.owns_wide o10
            clear hsN hbN o8 o10 b10 o1
            go_wp2_with fail
            refine (WalkPairsSame.pairs_same (range m from_ to_) a8 a10 _ c8 c10 w10 hw8 hw10 (by omega)).mono ?_
            rintro e w11 ⟨rfl, b11⟩
            have HBE : Hid (Below w.heap.size w w11) := hb10.trans (b11.mono hb10.size)
            clear hb10 b11 hw8 hw10
            go_wp2_with fail
            go_ret
            exact ⟨rfl, HBE.out⟩
        · rw [errv_pos _ hE]
          clear hE
          go_upto_region 23 with fail
          by_cases hA : lt cut_ from_ = true
          · have e1 := gtr_run from_ cut_ true hA
            clear hA
            go_wp2_with fail
            go_ret
            exact ⟨rfl, HB7.out⟩
          have hA : lt cut_ from_ = false := by simpa using hA
          have e1 := gtr_run from_ cut_ false hA
          by_cases hC : lt to_ cut_ = true
          · have e2 := gtr_run cut_ to_ true hC
            clear hA hC
            go_wp2_with fail
            go_ret
            exact ⟨rfl, HB7.out⟩
          have hC : lt to_ cut_ = false := by simpa using hC
          have e2 := gtr_run cut_ to_ false hC
          have HQ : Hid (range m from_ cut_ ++ range m cut_ to_ = range m from_ to_) := Stores.range_parts HRi.out.1 hA hC
          have l1 : (range m from_ cut_).length ≤ 60 := Nat.le_trans (List.length_filter_le _ _) HRi.out.2
          have l2 : (range m cut_ to_).length ≤ 60 := Nat.le_trans (List.length_filter_le _ _) HRi.out.2
          have l3 : (range m from_ to_).length ≤ 60 := Nat.le_trans (List.length_filter_le _ _) HRi.out.2
          clear hA hC
          go_wp2_with fail
          refine (WalkSto.range_any HS7.out from_ cut_ (by unfold maxLen; omega) (by unfold maxLen; omega)).mono ?_
          rintro e w8 ⟨v8, rfl, o8, b8⟩
          have hs8 := st_below HS7.out b8
          have hb8 := HB7.out.trans (b8.mono HB7.out.size)
          have HF : Hid (∀ k, F k → k < w7.heap.size) := fun k hk => (HS7.out.foot k hk).2
          have s7 := HB7.out.size
          have s8 := b8.size
          clear HS7 HB7 b8
          go_wp2_with fail
          refine (WalkSto.range_any hs8 cut_ to_ (by unfold maxLen; omega) (by unfold maxLen; omega)).mono ?_
          rintro e w9 ⟨v9, rfl, o9, b9⟩
          have HO8 : Hid (w9.ownsRow w7.heap.size 37 3 v8 (range m from_ cut_).length (cells (range m from_ cut_))) := owns_kept o8 (Kept.of_below (fun _ => False) b9) fun _ _ q => q
          have HS9 : Hid (St w9 w.heap.size b F m) := st_below hs8 b9
          have HB9 : Hid (Below w.heap.size w w9) := hb8.trans (b9.mono hb8.size)
          have s9 := b9.size
          have o9' := o9
          clear hs8 hb8 b9 o8
          rcases o9'.2 with ⟨hv9, hl9⟩ | ⟨g9, cp9, cur9, hv9, _⟩
          · subst hv9
            rw [List.length_eq_zero_iff.1 hl9, List.append_nil] at HQ
            rw [HQ.out] at HO8
            clear o9 o9' hl9 HQ
            go_wp2_with (at_builtin; go_must (refine wpList_append_own_none rfl (.tmp 139) (.tmp 140) 29 rfl w7.heap.size 37 i0 3 Try.underlying29 hi _ _ _ rfl HO8.out rfl ?_))
            refine (WalkSto.range_any HS9.out from_ to_ (by unfold maxLen; omega) (by unfold maxLen; omega)).mono ?_
            rintro e w10 ⟨v10, rfl, o10, b10⟩
            have o8 := owns_kept HO8.out (Kept.of_below (fun _ => False) b10) fun _ _ q => q
            have hb10 := HB9.out.trans (b10.mono HB9.out.size)
            obtain ⟨a8, c8, rfl, hw8⟩ := Wides.owns_wide o8
            obtain ⟨a10, c10, rfl, hw10⟩ := Wides.owns_wide o10
            clear HO8 HS9 HB9 o8 o10 b10
            go_wp2_with fail
            refine (WalkPairsSame.pairs_same (range m from_ to_) a8 a10 _ c8 c10 w10 hw8 hw10 (by omega)).mono ?_
            rintro e w11 ⟨rfl, b11⟩
            have HBE : Hid (Below w.heap.size w w11) := hb10.trans (b11.mono hb10.size)
            clear hb10 b11 hw8 hw10
            go_wp2_with fail
            go_ret
            exact ⟨rfl, HBE.out⟩
          · subst hv9
            have hc9 : ∀ j u, (cells (range m cut_ to_))[j]? = some u → w9.cell? ((⟨g9, 0, none⟩ : Addr).add j) = some u := cells_of o9
            have HC9 : Hid (∀ j u, (cells (range m cut_ to_))[j]? = some u → w9.cell? ((⟨g9, 0, none⟩ : Addr).add j) = some u) := hc9
            clear o9 o9' hc9
            go_wp2_with (at_builtin; go_must (refine wpList_append_own _ rfl (.tmp 139) (.tmp 140) 29 rfl w7.heap.size 37 i0 (.agg #[.string ⟨#[]⟩, .string ⟨#[]⟩, .bool false]) 3 40 Try.underlying29 hi hz0 hz1 hz2 rfl (by decide) _ _ _ rfl HO8.out ⟨g9, 0, none⟩ _ cp9 (cells (range m cut_ to_)) rfl (by rw [PairRows.cells_length]) HC9.out cells_one (by unfold maxLen; omega) (by omega) (by omega) ?_); intro v1 wn o1 g1 z1; clear z1)
            have hkN : Kept (fun k => v8.ownBlock = some k) w9 wn := (Kept.refl _ _).grown g1 fun k hk => .inl hk
            have hsN : St wn w.heap.size b F m := HS9.out.kept hkN fun i hi h => by have h1 := (HO8.out.lt i h).1; have h2 := HF.out i hi; omega
            have hbN := HB9.out.trans (hkN.below (fun k hk => Nat.le_trans s7 (HO8.out.lt k hk).1) HB9.out.size)
            rw [← List.length_append, ← cells_append, HQ.out] at o1
            clear HO8 HS9 HB9 HC9 g1 hkN
            go_wp2_with fail
            refine (WalkSto.range_any hsN from_ to_ (by unfold maxLen; omega) (by unfold maxLen; omega)).mono ?_
            rintro e w10 ⟨v10, rfl, o10, b10⟩
            have o8 := owns_kept o1 (Kept.of_below (fun _ => False) b10) fun _ _ q => q
            have hb10 := hbN.trans (b10.mono hbN.size)
            obtain ⟨a8, c8, rfl, hw8⟩ := Wides.owns_wide o8
            obtain ⟨a10, c10, rfl, hw10⟩ := Wides.owns_wide o10
            clear hsN hbN o8 o10 b10 o1
            go_wp2_with fail
            refine (WalkPairsSame.pairs_same (range m from_ to_) a8 a10 _ c8 c10 w10 hw8 hw10 (by omega)).mono ?_
            rintro e w11 ⟨rfl, b11⟩
            have HBE : Hid (Below w.heap.size w w11) := hb10.trans (b11.mono hb10.size)
            clear hb10 b11 hw8 hw10
            go_wp2_with fail
            go_ret
            exact ⟨rfl, HBE.out⟩

end Go.Proofs.Ytibmgmadoaencae.WalkStoreLast
