/-
  The document's own lsm (package witref2): a batch that is done whole or not at all.
-/
import Derived.Test.YtofaegcljcpceagGreatDoorWalkCopyRef
import Derived.Test.YtofaegcljcpceagGreatDoorLsmRef
import Derived.Test.YtofaegcljcpceagGreatDoorPlains
import Derived.Test.YtofaegcljcpceagGreatDoorWalPlain
import Derived.Laws.Cover1
namespace Go.Proofs.YtofaegcljcpceagGreatDoor.WalkBatchRef
open Go.RowKit
open Lists (Row bt)
open Keeps (Kept)
open Stores (Pair putE)
open Wides (Wide)
open PairRows (cells)
open Lsms (Lsm putted total)
open LsmFines (Fine)
open WalkMergeRef (DL Stays)
open Wals (puts batchE batched shapeE)
open WalkStoreRef (aggP sizeP empty_yes empty_no)

/-- a pair that is gone and has a value -/
def odd (p : Pair) : Bool := p.gone && decide (p.val.size ≠ 0)
theorem any_next {l : List Pair} {k : Nat} (hk : k < l.length) (h : (l.take k).any odd = false) (h2 : odd l[k] = false) : (l.take (k + 1)).any odd = false := by
  rw [List.take_succ_eq_append_getElem hk, List.any_append, h]
  simp [h2]
theorem any_at {l : List Pair} {k : Nat} (hk : k < l.length) (h2 : odd l[k] = true) : l.any odd = true := List.any_eq_true.2 ⟨_, List.getElem_mem hk, h2⟩
theorem shape_long {l : List Pair} (h : 20 < l.length) : shapeE l = 4 := if_pos h
theorem shape_odd {l : List Pair} (h : ¬ 20 < l.length) (h2 : l.any odd = true) : shapeE l = 3 := by
  unfold shapeE
  rw [if_neg h]
  exact if_pos h2
theorem shape_fit {l : List Pair} (h : ¬ 20 < l.length) (h2 : l.any odd = false) : shapeE l = 0 := by
  unfold shapeE
  rw [if_neg h]
  exact if_neg (by rw [show (l.any fun p => p.gone && decide (p.val.size ≠ 0)) = l.any odd from rfl, h2]; decide)
theorem batch_bad {x : Lsm} {l : List Pair} (h : shapeE l ≠ 0) : batchE x l = shapeE l ∧ batched x l = x := by
  have h1 : batchE x l = shapeE l := if_neg h
  exact ⟨h1, if_neg (by rw [h1]; exact h)⟩
theorem batch_done {x : Lsm} {l : List Pair} (h : shapeE l = 0) (h2 : (puts x l).2 = 0) : batchE x l = 0 ∧ batched x l = (puts x l).1 := by
  have h1 : batchE x l = (puts x l).2 := if_pos h
  exact ⟨by rw [h1, h2], if_pos (by rw [h1, h2])⟩
theorem batch_stop {x : Lsm} {l : List Pair} (h : shapeE l = 0) (h2 : (puts x l).2 ≠ 0) : batchE x l = (puts x l).2 ∧ batched x l = x := by
  have h1 : batchE x l = (puts x l).2 := if_pos h
  exact ⟨h1, if_neg (by rw [h1]; exact h2)⟩
theorem puts_step {x : Lsm} {l : List Pair} {k : Nat} (hk : k < l.length) (h : (puts x (l.take k)).2 = 0) : puts x (l.take (k + 1)) = puts (puts x (l.take k)).1 [l[k]] := by
  rw [List.take_succ_eq_append_getElem hk, Wals.puts_append, if_pos h]
theorem puts_next {x : Lsm} {l : List Pair} {k : Nat} (hk : k < l.length) (h : (puts x (l.take k)).2 = 0) (h2 : putE (puts x (l.take k)).1.young l[k] = 0) : puts x (l.take (k + 1)) = (putted (puts x (l.take k)).1 l[k], 0) := by
  rw [puts_step hk h]
  generalize puts x (l.take k) = q at h2
  rw [puts, if_pos h2, puts]
theorem puts_stop {x : Lsm} {l : List Pair} {k : Nat} (hk : k < l.length) (h : (puts x (l.take k)).2 = 0) (h2 : putE (puts x (l.take k)).1.young l[k] ≠ 0) : (puts x l).2 = putE (puts x (l.take k)).1.young l[k] := by
  have e1 : puts x (l.take (k + 1)) = ((puts x (l.take k)).1, putE (puts x (l.take k)).1.young l[k]) := by
    rw [puts_step hk h]
    generalize puts x (l.take k) = q at h2
    rw [puts, if_neg h2]
  have e2 : puts x l = puts x (l.take (k + 1) ++ l.drop (k + 1)) := by rw [List.take_append_drop]
  rw [e2, Wals.puts_append, e1, if_neg h2]
/-- a list that is not odd: pairs that are gone have no value -/
theorem not_odd {l : List Pair} (h : l.any odd = false) : ∀ p ∈ l, p.gone = true → p.val.size = 0 := fun p hp hg => by
  have h1 := List.any_eq_false.1 h p hp
  unfold odd at h1
  rw [hg] at h1
  simpa using h1

/-- it stays fine -/
theorem fine_puts {m : Nat} : ∀ (l : List Pair) (x : Lsm) (N : Nat), Fine m x N → (∀ p ∈ l, p.gone = true → p.val.size = 0) → Fine m (puts x l).1 (N + l.length)
  | [], x, N, h, _ => by rw [puts]; exact h
  | p :: l, x, N, h, ho => by
    rw [puts]
    split
    · have := fine_puts l (putted x p) (N + 1) (h.put p (ho p (List.mem_cons_self ..))) fun q hq => ho q (List.mem_cons_of_mem _ hq)
      rw [List.length_cons]
      exact (show N + 1 + l.length = N + (l.length + 1) by omega) ▸ this
    · exact ⟨h.limit, h.good, Nat.le_trans h.size (Nat.le_add_right _ _), h.young, h.levels⟩
theorem fine_batched {m N : Nat} {x : Lsm} (h : Fine m x N) (l : List Pair) : Fine m (batched x l) (N + 20) := by
  unfold batched
  split
  · rename_i h0
    have hs : shapeE l = 0 := by
      unfold batchE at h0
      split at h0
      · assumption
      · exact h0
    have hl : l.length ≤ 20 := by
      refine Decidable.not_not.1 fun q => ?_
      rw [shape_long (by omega)] at hs
      cases hs
    have ho : l.any odd = false := by
      cases ho : l.any odd
      · rfl
      · rw [shape_odd (by omega) ho] at hs
        cases hs
    have h1 := fine_puts l x N h (not_odd ho)
    exact ⟨h1.limit, h1.good, Nat.le_trans h1.size (by omega), h1.young, h1.levels⟩
  · exact ⟨h.limit, h.good, Nat.le_trans h.size (Nat.le_add_right _ _), h.young, h.levels⟩

set_option maxHeartbeats 8000000 in
set_option maxRecDepth 100000 in
theorem batch_any {w : World} {B g m N : Nat} {D : Nat → Prop} {x : Lsm} (h : DL w B g D x) (hB : B ≤ w.heap.size) (hf : Fine m x N) (hN : N ≤ 900) (l : List Pair) (a : Option Addr) (n cap : Nat) (hr : Wide 3 w a n cap (cells l)) (hz : ∀ e ∈ l, e.key.size ≤ maxLen ∧ e.val.size ≤ maxLen) (hn : n ≤ 17592186043904) :
    Calls Tryz.prog 13 #[.pointer (some ⟨g, 0, none⟩), .slice a n cap] w fun e w' => ∃ g' D', e = .returned (.tuple #[.pointer (some ⟨g', 0, none⟩), .int .i64 (batchE x l : Nat)]) ∧ DL w' B g' D' (batched x l) ∧ (∀ k, D' k → D k ∨ w.heap.size ≤ k) ∧ Below w.heap.size w w' := by
  have hln := PairRows.len_of hr
  have HR : Hid (Wide 3 w a n cap (cells l)) := hr
  have HZ : Hid (∀ e ∈ l, e.key.size ≤ maxLen ∧ e.val.size ≤ maxLen) := hz
  have HD : Hid (DL w B g D x) := h
  have HF : Hid (Fine m x N) := hf
  have HS : Hid (∀ w', Below w.heap.size w w' → DL w' B g D x) := fun w' b => by
    obtain ⟨yv, lv, vs, hd⟩ := h
    exact ⟨yv, lv, vs, hd.below b⟩
  have a26 := aggP
  have z26 := sizeP
  clear hr hz h hf
  go_enter Tryz.func13, Tryz.ntmps13
  by_cases hlong : 20 < n
  · have i1 : (20 : Int) < (n : Int) := by omega
    have HV : Hid (batchE x l = 4 ∧ batched x l = x) := by
      have hs := shape_long (l := l) (by omega)
      have := batch_bad (x := x) (l := l) (by rw [hs]; decide)
      rw [hs] at this
      exact this
    clear hlong
    go_wp2_with fail
    go_ret2
    rw [HV.out.1, HV.out.2]
    exact ⟨g, D, rfl, HS.out _ (Below.refl _ _), fun k q => .inl q, Below.refl _ _⟩
  have i0 : ¬ (20 : Int) < (n : Int) := by omega
  go_wp2_with fail
  go_loopw [6] (fun i wr => ∃ k : Nat, k ≤ n ∧ i = .int .i64 (k : Int) ∧ Hid ((l.take k).any odd = false) ∧ Hid (Below w.heap.size w wr)) (fun i _ => n - (intOf i).toNat)
  case atStart => exact ⟨0, Nat.zero_le _, rfl, rfl, Below.refl _ _⟩
  case round =>
    obtain ⟨k, hk, rfl, HE, HB⟩ := hrel
    by_cases hlt : k < n
    · have i1 : (k : Int) < (n : Int) := by omega
      have hkl : k < l.length := by omega
      obtain ⟨b1, off1, rfl, _⟩ := HR.out.2.2 (by omega)
      obtain ⟨p0, p1, p2⟩ := PairRows.at_three (HR.out.below HB.out) k hkl
      have HA : Hid (odd l[k] = true → l.any odd = true) := any_at hkl
      have HX : Hid (odd l[k] = false → (l.take (k + 1)).any odd = false) := any_next hkl HE.out
      generalize l[k] = y at p0 p1 p2 HA HX
      obtain ⟨y0, y1, y2⟩ := y
      simp only at p0 p1 p2
      by_cases hG : y2 = true ∧ y1.size ≠ 0
      · obtain ⟨rfl, hs⟩ := hG
        have HV : Hid (batchE x l = 3 ∧ batched x l = x) := by
          have hs := shape_odd (l := l) (by omega) (HA.out (by unfold odd; simpa using hs))
          have := batch_bad (x := x) (l := l) (by rw [hs]; decide)
          rw [hs] at this
          exact this
        have e1 := empty_no hs
        clear HA HX hs
        go_wp2_with fail
        go_ret2
        rw [HV.out.1, HV.out.2]
        exact ⟨g, D, rfl, HS.out _ HB.out, fun k q => .inl q, HB.out⟩
      have HV : Hid ((l.take (k + 1)).any odd = false) := HX.out (by unfold odd; simpa using hG)
      have hgo : y2 = false ∨ (y2 = true ∧ (y1.toList == []) = true) := by
        cases y2
        · exact .inl rfl
        · exact .inr ⟨rfl, empty_yes (Decidable.not_not.1 fun h => hG ⟨rfl, h⟩)⟩
      clear HA HX hG
      rcases hgo with rfl | ⟨rfl, e1⟩
      · go_wp2_with fail
        go_roundw
        case rel => exact ⟨k + 1, by omega, by go_num, HV, HB⟩
        case measure => simp [intOf]; omega
      · go_wp2_with fail
        go_roundw
        case rel => exact ⟨k + 1, by omega, by go_num, HV, HB⟩
        case measure => simp [intOf]; omega
    · have i1 : ¬ (k : Int) < (n : Int) := by omega
      have hany : l.any odd = false := by
        have h := HE.out
        rw [List.take_of_length_le (by omega)] at h
        exact h
      have HO : Hid (∀ p ∈ l, p.gone = true → p.val.size = 0) := not_odd hany
      have HQ : Hid (shapeE l = 0) := shape_fit (by omega) hany
      have hyl : x.young.length ≤ 900 := by have := HF.out.good.small; have := HF.out.good.high; omega
      have hll : x.levels.length ≤ 900 := by have := HF.out.good.few; omega
      have HC : Hid (∀ w2, Below w.heap.size w w2 → Calls Tryz.prog 31 #[.pointer (some ⟨g, 0, none⟩)] w2 fun e w' => ∃ g' D', e = .returned (.pointer (some ⟨g', 0, none⟩)) ∧ w2.heap.size ≤ g' ∧ DL w' B g' D' x ∧ (∀ k, D' k → D k ∨ w2.heap.size ≤ k) ∧ Below w2.heap.size w2 w') := fun w2 b => WalkCopyRef.copy_any (HS.out w2 b) (Nat.le_trans hB b.size) hyl hll
      clear hany hk hlt
      go_wp2_with fail
      refine (HC.out _ ?_).mono ?_
      · exact HB.out
      rintro e w2 ⟨g', D0, rfl, hg', hd2, hD2, b2⟩
      have HB2 : Hid (Below w.heap.size w w2) := HB.out.trans (b2.mono HB.out.size)
      have HD2 : Hid (∃ D', DL w2 B g' D' x ∧ ∀ k, D' k → D k ∨ w.heap.size ≤ k) := ⟨D0, hd2, fun k q => (hD2 k q).imp id fun q => Nat.le_trans HB.out.size q⟩
      replace hg' : w.heap.size ≤ g' := Nat.le_trans HB.out.size hg'
      clear hd2 hD2 b2 HC HE HB
      go_wp2_with fail
      go_loopw [8, 9] (fun i _ wr => ∃ k : Nat, k ≤ n ∧ i = .int .i64 (k : Int) ∧ Hid ((puts x (l.take k)).2 = 0) ∧ Hid (Fine m (puts x (l.take k)).1 (N + k)) ∧ Hid (∃ D', DL wr B g' D' (puts x (l.take k)).1 ∧ ∀ k, D' k → D k ∨ w.heap.size ≤ k) ∧ Hid (Below w.heap.size w wr)) (fun i _ _ => n - (intOf i).toNat)
      case atStart => exact ⟨0, Nat.zero_le _, rfl, rfl, HF.out, HD2, HB2⟩
      case round =>
        clear HB2 HD2
        obtain ⟨k, hk, rfl, HE, HFk, HDk, HB⟩ := hrel
        by_cases hlt : k < n
        · have i2 : (k : Int) < (n : Int) := by omega
          have hkl : k < l.length := by omega
          obtain ⟨b1, off1, rfl, _⟩ := HR.out.2.2 (by omega)
          obtain ⟨p0, p1, p2⟩ := PairRows.at_three (HR.out.below HB.out) k hkl
          have HN : Hid (putE (puts x (l.take k)).1.young l[k] = 0 → puts x (l.take (k + 1)) = (putted (puts x (l.take k)).1 l[k], 0)) := puts_next hkl HE.out
          have HT : Hid (putE (puts x (l.take k)).1.young l[k] ≠ 0 → (puts x l).2 = putE (puts x (l.take k)).1.young l[k]) := puts_stop hkl HE.out
          have HK : Hid (Fine m (putted (puts x (l.take k)).1 l[k]) (N + k + 1)) := HFk.out.put l[k] (HO.out _ (List.getElem_mem hkl))
          obtain ⟨D1, hd1, hD1⟩ := HDk.out
          generalize (puts x (l.take k)).1 = y at HN HT HK HFk hd1
          have hgd := HFk.out.good
          have hsz := HFk.out.size
          unfold Lsms.Lsm.size at hsz
          have h1 := hgd.small
          have h2 := hgd.high
          have h3 := hgd.few
          have cP : ∀ q0 q1 q2, _ := fun q0 q1 q2 => WalkLPutRef.put_any hd1 q0 q1 q2 HFk.out.young.1 (by omega) (by omega) (by omega)
          generalize l[k] = z at p0 p1 p2 HN HT HK
          obtain ⟨z0, z1, z2⟩ := z
          simp only at p0 p1 p2
          clear hgd hsz h1 h2 h3 hd1
          go_wp2_with fail
          refine (cP z0 z1 z2).mono ?_
          rintro e w3 ⟨rfl, ⟨D3, hd3, hD3⟩, k3⟩
          have HB3 : Hid (Below w.heap.size w w3) := HB.out.trans (k3.below (fun j q => by rw [q]; exact hg') HB.out.size)
          have HD3 : Hid (∃ D', DL w3 B g' D' (putted y ⟨z0, z1, z2⟩) ∧ ∀ k, D' k → D k ∨ w.heap.size ≤ k) := ⟨D3, hd3, fun j q => by
            rcases hD3 j q with q | q
            · exact hD1 j q
            · exact .inr (Nat.le_trans HB.out.size q)⟩
          clear cP p0 p1 p2 hd3 hD3 k3 HDk HB hD1
          by_cases h0 : putE y.young ⟨z0, z1, z2⟩ = 0
          · have HE2 : Hid (puts x (l.take (k + 1)) = (putted y ⟨z0, z1, z2⟩, 0)) := HN.out h0
            rw [h0]
            clear HN HT h0
            go_wp2_with fail
            go_roundw
            case rel =>
              refine ⟨k + 1, by omega, by go_num, ?_⟩
              rw [HE2.out]
              exact ⟨rfl, HK, HD3, HB3⟩
            case measure => simp [intOf]; omega
          · have hx : ((putE y.young ⟨z0, z1, z2⟩ : Int) != 0) = true := by rw [bne_iff_ne]; omega
            have HV : Hid (batchE x l = putE y.young ⟨z0, z1, z2⟩ ∧ batched x l = x) := by
              have ht := HT.out h0
              have := batch_stop (x := x) HQ.out (by rw [ht]; exact h0)
              rw [ht] at this
              exact this
            clear HN HT h0
            obtain ⟨E, HEe⟩ : ∃ E : Int, Hid ((putE y.young ⟨z0, z1, z2⟩ : Int) = E) := ⟨_, rfl⟩
            rw [HEe.out] at hx ⊢
            go_wp2_with fail
            go_ret2
            rw [HV.out.1, HV.out.2, HEe.out]
            exact ⟨g, D, rfl, HS.out _ HB3.out, fun k q => .inl q, HB3.out⟩
        · have i2 : ¬ (k : Int) < (n : Int) := by omega
          have hl : (l.take k) = l := List.take_of_length_le (by omega)
          rw [hl] at HE HDk
          have HV : Hid (batchE x l = 0 ∧ batched x l = (puts x l).1) := batch_done HQ.out HE.out
          clear hlt
          go_wp2_with fail
          go_ret2
          rw [HV.out.1, HV.out.2]
          obtain ⟨D1, hd1, hD1⟩ := HDk.out
          exact ⟨g', rfl, D1, hd1, hD1, HB.out⟩

/-- too many -/
theorem batch_long {w : World} {B g : Nat} {D : Nat → Prop} {x : Lsm} (h : DL w B g D x) (l : List Pair) (a : Option Addr) (n cap : Nat) (hr : Wide 3 w a n cap (cells l)) (hn : 20 < n) :
    Calls Tryz.prog 13 #[.pointer (some ⟨g, 0, none⟩), .slice a n cap] w fun e w' => ∃ g' D', e = .returned (.tuple #[.pointer (some ⟨g', 0, none⟩), .int .i64 (batchE x l : Nat)]) ∧ DL w' B g' D' (batched x l) ∧ (∀ k, D' k → D k ∨ w.heap.size ≤ k) ∧ Below w.heap.size w w' := by
  have hln := PairRows.len_of hr
  have hb := batch_bad (x := x) (l := l) (by rw [shape_long (by omega)]; decide)
  have HV : Hid (batchE x l = 4 ∧ batched x l = x) := ⟨hb.1.trans (shape_long (by omega)), hb.2⟩
  have HD : Hid (DL w B g D x) := h
  have i1 : (20 : Int) < (n : Int) := by omega
  clear hr hb h hln hn
  go_enter Tryz.func13, Tryz.ntmps13
  go_wp2_with fail
  go_ret2
  exact ⟨g, D, by rw [HV.out.1]; rfl, by rw [HV.out.2]; exact HD.out, fun k hk => .inl hk, Below.refl _ _⟩
theorem batch_every {w : World} {B g m N : Nat} {D : Nat → Prop} {x : Lsm} (h : DL w B g D x) (hB : B ≤ w.heap.size) (hf : Fine m x N) (hN : N ≤ 900) (l : List Pair) (a : Option Addr) (n cap : Nat) (hr : Wide 3 w a n cap (cells l)) (hz : ∀ e ∈ l, e.key.size ≤ maxLen ∧ e.val.size ≤ maxLen) :
    Calls Tryz.prog 13 #[.pointer (some ⟨g, 0, none⟩), .slice a n cap] w fun e w' => ∃ g' D', e = .returned (.tuple #[.pointer (some ⟨g', 0, none⟩), .int .i64 (batchE x l : Nat)]) ∧ DL w' B g' D' (batched x l) ∧ (∀ k, D' k → D k ∨ w.heap.size ≤ k) ∧ Below w.heap.size w w' := by
  by_cases hn : 20 < n
  · exact batch_long h l a n cap hr hn
  · exact batch_any h hB hf hN l a n cap hr hz (by omega)

end Go.Proofs.YtofaegcljcpceagGreatDoor.WalkBatchRef
