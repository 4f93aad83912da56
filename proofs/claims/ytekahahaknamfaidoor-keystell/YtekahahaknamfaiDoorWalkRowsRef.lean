/-
  What the document's own answer witref2.Rows returns on any pairs: the sums of their tree of keys, level by level, or what is wrong with them.
-/
import Derived.Test.YtekahahaknamfaiDoorWalkSpotRef
import Derived.Test.YtekahahaknamfaiDoorWalkStoreRef
import Derived.Test.YtekahahaknamfaiDoorSumRows
import Derived.BigQuiet
import Derived.Deep.QuietTactic
import Derived.Deep.CutBlock
import Derived.Deep.DeepMust
import Derived.Laws.Cover1
import Derived.Laws.OwnMore
import Derived.Lib.QuietBelow
import Derived.Deep.RegionWith
import Derived.Deep.RegionHeld3
namespace Go.Proofs.YtekahahaknamfaiDoor.WalkRowsRef
open Go.RowKit
open Go.Sort (grow)
open Lists (Row ints bt)
open Keeps (Kept owns_kept owns_row owns_base)
open Wides (Wide)
open Stores (Pair lt keyE)
open PairRows (cells)
open SumRows (Rs)
open WalkStoreRef (aggP sizeP eq_yes eq_no)
open KeyTrees

theorem below_drewN {B : Nat} {a w : World} (h : Below B a w) (n : Nat) : Below B a (w.drewN n) := ⟨h.os, h.tape, h.output, h.size, h.block⟩
theorem below_own {w w' : World} {base : Nat} {e : TypeId} {sz : Nat} {v : Value} {n : Nat} {xs : List Value} (h : w.ownsRow base e sz v n xs) (b : Below w.heap.size w w') : w'.ownsRow base e sz v n xs := owns_kept h (Kept.of_below (fun _ => False) b) fun _ _ q => q
/-- the row while it is filled -/
def fill (k : Nat) : List Int := List.replicate k nothing ++ List.replicate (256 - k) 0
theorem fill_at {k : Nat} (h : k < 256) : (ints (fill k))[k]? = some (.int .i64 0) := by
  unfold fill ints
  rw [List.map_append, List.getElem?_append_right (by simp), List.getElem?_map, List.getElem?_replicate, if_pos (by simp; omega)]
  rfl
theorem fill_next {k : Nat} (h : k < 256) : (ints (fill k)).set k (.int .i64 nothing) = ints (fill (k + 1)) := by
  have e : 256 - k = (256 - (k + 1)) + 1 := by omega
  unfold fill ints
  rw [List.map_append, List.set_append_right _ _ (by simp), e, List.replicate_succ, List.map_replicate, List.map_cons, List.length_replicate, Nat.sub_self, List.set_cons_zero, List.map_append, List.map_replicate, List.replicate_succ' (n := k)]
  simp
theorem fill_end : fill 256 = rowL (place []) 0 := by rw [row_nil]; unfold fill; rw [Nat.sub_self, List.replicate_zero, List.append_nil]
theorem row_len (l : List Pair) : (rowL (place l) 0).length = 256 := rowL_length _ _
def len (v : Value) : Nat := match v with
  | .slice _ n _ => n
  | _ => 0
/-- one list alone, in a row that was just made -/
theorem rs_one {w : World} {B : Nat} {a : Option Addr} {c n : Nat} {q : List Int} (hB : B ≤ w.heap.size) (hn : q.length = n) (h : w.ownsRow B 3 1 (.slice a n c) n (ints q)) : Rs B (w.alloc (.cells #[.slice a n c] 30)) (.slice (some ⟨w.heap.size, 0, none⟩) 1 1) [.slice a n c] [q] := by
  refine ⟨⟨rfl, .inr ⟨w.heap.size, 1, #[.slice a n c], rfl, hB, heap_alloc_new w _, Nat.le_refl _, by decide, rfl, rfl⟩⟩, fun i l hl => ?_⟩
  match i, hl with
  | 0, hl =>
    obtain rfl : q = l := by simpa using hl
    exact ⟨a, c, by rw [hn]; rfl, by rw [hn]; exact h.alloc _⟩
  | i + 1, hl => simp at hl
/-- the last of the rows -/
theorem rs_last {w : World} {B : Nat} {v : Value} {vs : List Value} {f : Nat → Int} {j : Nat} (h : Rs B w v vs (rowsL f (j + 1))) : ∃ a c, vs[j]? = some (Value.slice a (2 ^ (8 - j)) c) ∧ Row w a (2 ^ (8 - j)) c (ints (rowL f j)) := by
  obtain ⟨a, c, h1, h2⟩ := h.each j _ (rowsL_at f (Nat.lt_succ_self _))
  have := (Row.of_owns h2).2
  rw [rowL_length] at h1 this
  exact ⟨a, c, h1, this⟩
/-- what Rows answers -/
def Told (l : List Pair) (w : World) (e : Ending) (w' : World) : Prop :=
  ∃ v vs, e = .returned (.tuple #[v, .int .i64 (pairsE l : Nat)]) ∧ Rs w.heap.size w' v vs (if pairsE l = 0 then rowsL (place l) 9 else []) ∧ Below w.heap.size w w'
theorem told_no {l : List Pair} {w w' : World} {E : Nat} (h : pairsE l = E) (h0 : E ≠ 0) (b : Below w.heap.size w w') : Told l w (.returned (.tuple #[.slice none 0 0, .int .i64 (E : Nat)])) w' := by
  refine ⟨_, [], by rw [h], ?_, b⟩
  rw [if_neg (by omega)]
  exact Rs.nil _ _

set_option maxHeartbeats 8000000 in
set_option maxRecDepth 100000 in
theorem rows_any (l : List Pair) (a : Option Addr) (n cap : Nat) (w : World) (hr : Wide 3 w a n cap (cells l)) (hz : ∀ e ∈ l, e.key.size ≤ maxLen ∧ e.val.size ≤ maxLen) : Calls Tryd.prog 11 #[.slice a n cap] w (Told l w) := by
  have hln := PairRows.len_of hr
  have HR : Hid (∀ w', Below w.heap.size w w' → Wide 3 w' a n cap (cells l)) := fun w' b => hr.below b
  have HZ : Hid (∀ e ∈ l, e.key.size ≤ maxLen ∧ e.val.size ≤ maxLen) := hz
  obtain ⟨i0, hi, hz0, hz1, hz2⟩ := info_parts WalkSpotRef.infoI
  obtain ⟨j0, hjR, hy0, hy1, hy2⟩ := info_parts SumRows.infoR
  clear hr hz
  by_cases h60 : 60 < n
  · have i1 : (60 : Int) < (n : Int) := by omega
    have hE : pairsE l = 4 := if_pos (by omega)
    have HF := told_no (w := w) hE (by decide) (Below.refl _ _)
    clear hE
    go_enter Tryd.func11, Tryd.ntmps11
    go_wp2_with fail
    go_ret2
    exact HF
  have i1 : ¬ (60 : Int) < (n : Int) := by omega
  obtain ⟨w2, hmk, o2, g2⟩ := run_make_full (P := Tryd.prog) w w.heap.size 30 3 i0 (.int .i64 0) 1 Tryd.underlying30 hi hz0 hz1 .i64 .i64 256 (by rw [hz2]; omega) (by unfold maxLen; omega) (Nat.le_refl _)
  have HO2 : Hid (w2.ownsRow w.heap.size 3 1 (.slice (some ⟨w.heap.size, 0, none⟩) 256 256) 256 (ints (fill 0))) := by
    have e : ints (fill 0) = (madeCells (Value.int .i64 0).cells (256 * 1)).toList := by
      show _ = (madeCells #[.int .i64 0] 256).toList
      rw [toList_madeCells_one]
      simp [ints, fill]
    show World.ownsRow _ _ _ _ _ _ _
    rw [e]
    exact o2
  have HB2 : Hid (Below w.heap.size w w2) := (Below.refl _ _).grown g2 (Nat.le_refl _) (fun k hk => by cases hk)
  obtain ⟨g, HG⟩ : ∃ g, Hid (w.heap.size = g) := ⟨_, rfl⟩
  have hgw : w.heap.size ≤ g := by rw [HG.out]; exact Nat.le_refl _
  clear o2 g2
  rw [HG.out] at hmk
  have hmk' : (Instr.makeSlice 30 (.int .i64 256) (.int .i64 256)).run Tryd.prog w = .ok (.slice (some ⟨g, 0, none⟩) 256 256) w2 := hmk
  clear hmk
  have HO2' : Hid (w2.ownsRow w.heap.size 3 1 (.slice (some ⟨g, 0, none⟩) 256 256) 256 (ints (fill 0))) := by
    have h := HO2.out
    show World.ownsRow _ _ _ _ _ _ _
    rw [← HG.out]
    exact h
  clear HO2
  have cL := WalkRef.leaf_any ⟨#[]⟩ w2 (by decide)
  rw [show Sums.sum (0 :: (⟨#[]⟩ : ByteArray).data.toList) = nothing from rfl] at cL
  go_enter Tryd.func11, Tryd.ntmps11
  go_wp2_with fail
  refine cL.mono ?_
  rintro e w3 ⟨rfl, b3⟩
  have HB3 : Hid (Below w.heap.size w w3) := bt HB2.out b3
  have HO3 : Hid (w3.ownsRow w.heap.size 3 1 (.slice (some ⟨g, 0, none⟩) 256 256) 256 (ints (fill 0))) := below_own HO2'.out b3
  clear cL b3 HB2 HO2' hmk'
  obtain ⟨X, HX⟩ : ∃ X, Hid (nothing = X) := ⟨_, rfl⟩
  rw [HX.out]
  go_wp2_with fail
  go_loopw [6] (fun iv wr => ∃ k : Nat, k ≤ 256 ∧ iv = .int .i64 (k : Int) ∧ Hid (wr.ownsRow w.heap.size 3 1 (.slice (some ⟨g, 0, none⟩) 256 256) 256 (ints (fill k))) ∧ Hid (Below w.heap.size w wr)) (fun iv _ => 256 - (intOf iv).toNat)
  case atStart => exact ⟨0, by omega, rfl, HO3, HB3⟩
  case round =>
    clear HO3 HB3
    obtain ⟨k, hk, rfl, HO, HB⟩ := hrel
    by_cases hlt : k < 256
    · have j1 : (k : Int) < 256 := by omega
      have c3 : wr.cell? ⟨g, k, none⟩ = some (.int .i64 0) := (HO.out.cellAt k (by omega)).trans (fill_at hlt)
      have f3 : wr.frozen? ⟨g, k, none⟩ = false := HO.out.frozenAt k
      have HBN : Hid (Below w.heap.size w (wr.setCell ⟨g, k, none⟩ (.int .i64 X))) := HB.out.setCell hgw _
      have HON : Hid ((wr.setCell ⟨g, k, none⟩ (.int .i64 X)).ownsRow w.heap.size 3 1 (.slice (some ⟨g, 0, none⟩) 256 256) 256 (ints (fill (k + 1)))) := by
        show World.ownsRow _ _ _ _ _ _ _
        rw [← fill_next hlt, HX.out]
        exact (HO.out.stored k _).1
      go_wp2_with fail
      go_roundw
      case rel => exact ⟨k + 1, by omega, by go_num, HON, HBN⟩
      case measure => simp [intOf]; omega
    · have j1 : ¬ (k : Int) < 256 := by omega
      obtain rfl : k = 256 := by omega
      rw [fill_end] at HO
      go_wp2_with fail
      have HS : Hid (∀ (k : ByteArray), k.size ≤ maxLen → ∀ w', Calls Tryd.prog 34 #[.string k] w' fun e w'' => e = .returned (.int .i64 (spot k : Nat)) ∧ Below w'.heap.size w' w'') := fun k hk w' => (WalkSpotRef.spot_any k w' hk).mono (by rintro e w'' ⟨rfl, rfl⟩; exact ⟨rfl, Below.refl _ _⟩)
      go_loopw [7] (fun iv wq => ∃ k : Nat, k ≤ n ∧ iv = .int .i64 (k : Int) ∧ Hid (firstE l k = 0) ∧ Hid (wq.ownsRow w.heap.size 3 1 (.slice (some ⟨g, 0, none⟩) 256 256) 256 (ints (rowL (place (l.take k)) 0))) ∧ Hid (Below w.heap.size w wq)) (fun iv _ => n - (intOf iv).toNat)
      case atStart => exact ⟨0, by omega, rfl, rfl, by rw [List.take_zero]; exact HO, HB⟩
      case round =>
        clear HO HB
        obtain ⟨k, hk, rfl, HF, HO, HB⟩ := hrel
        by_cases hlt : k < n
        · have j2 : (k : Int) < (n : Int) := by omega
          have hkl : k < l.length := by omega
          obtain ⟨b1, off1, rfl, _⟩ := (HR.out w (Below.refl _ _)).2.2 (by omega)
          have HP : Hid (∀ w', Below w.heap.size w w' → ∀ (j : Nat) (h : j < l.length), w'.cell? ⟨b1, off1 + j * 3, none⟩ = some (.string (l[j]).key) ∧ w'.cell? ⟨b1, off1 + j * 3 + 1, none⟩ = some (.string (l[j]).val) ∧ w'.cell? ⟨b1, off1 + j * 3 + 2, none⟩ = some (.bool (l[j]).gone)) := fun w' b j h => PairRows.at_three (HR.out w' b) j h
          obtain ⟨p0, p1, p2⟩ := HP.out _ HB.out k hkl
          have HPk : Hid (∀ w', Below w.heap.size w w' → w'.cell? ⟨b1, off1 + k * 3, none⟩ = some (.string (l[k]).key) ∧ w'.cell? ⟨b1, off1 + k * 3 + 1, none⟩ = some (.string (l[k]).val) ∧ w'.cell? ⟨b1, off1 + k * 3 + 2, none⟩ = some (.bool (l[k]).gone)) := fun w' b => HP.out w' b k hkl
          have HN : Hid (firstE l (k + 1) = oneE (l.take k) l[k]) := firstE_next HF.out (List.getElem?_eq_getElem hkl)
          have HE : Hid (oneE (l.take k) l[k] ≠ 0 → pairsE l = oneE (l.take k) l[k]) := fun h => by
            rw [← HN.out] at h ⊢
            exact pairs_stop (by omega) (by omega) h
          have HT : Hid (l.take (k + 1) = l.take k ++ [l[k]]) := List.take_succ_eq_append_getElem hkl
          obtain ⟨hx0, hx1⟩ := HZ.out _ (List.getElem_mem hkl)
          generalize l[k] = x at p0 p1 p2 HPk HN HE HT hx0 hx1
          obtain ⟨x0, x1, x2⟩ := x
          simp only at p0 p1 p2 HPk hx0 hx1
          have cK := WalkStoreRef.key_any x0
          by_cases hK : keyE x0 ≠ 0
          · have f := one_key (l := l.take k) (p := ⟨x0, x1, x2⟩) hK
            have HV := told_no (w := w) (E := keyE x0) (by rw [HE.out (by rw [f]; exact hK), f]) hK HB.out
            have HV' : Hid (Told l w (.returned (.tuple #[.slice none 0 0, .int .i64 (keyE x0 : Nat)])) wr) := HV
            have k1 : (((keyE x0 : Nat) : Int) != 0) = true := by rw [bne_iff_ne]; omega
            generalize keyE x0 = K at HV' k1 cK
            clear HN HE HT hK f HV
            go_wp2_with fail
            refine (cK _).mono ?_
            rintro e w4 ⟨rfl, rfl⟩
            go_wp2_with fail
            go_ret2
            exact HV'.out
          have hK : keyE x0 = 0 := Decidable.not_not.1 hK
          rw [hK] at cK
          by_cases hV : 200 < x1.size
          · have f := one_val (l := l.take k) (p := ⟨x0, x1, x2⟩) hK hV
            have HV : Hid (Told l w (.returned (.tuple #[.slice none 0 0, .int .i64 4])) wr) := told_no (E := 4) (by rw [HE.out (by rw [f]; decide), f]) (by decide) HB.out
            have i2 : (200 : Int) < (x1.size : Int) := by omega
            clear HN HE HT hK hV f
            go_wp2_with fail
            refine (cK _).mono ?_
            rintro e w4 ⟨rfl, rfl⟩
            go_wp2_with fail
            go_ret2
            exact HV.out
          have i2 : ¬ (200 : Int) < (x1.size : Int) := by omega
          cases x2
          rotate_left
          · have f := one_gone (l := l.take k) (p := ⟨x0, x1, true⟩) hK hV rfl
            have HV : Hid (Told l w (.returned (.tuple #[.slice none 0 0, .int .i64 3])) wr) := told_no (E := 3) (by rw [HE.out (by rw [f]; decide), f]) (by decide) HB.out
            clear HN HE HT hK hV f
            go_wp2_with fail
            refine (cK _).mono ?_
            rintro e w4 ⟨rfl, rfl⟩
            go_wp2_with fail
            go_ret2
            exact HV.out
          have HC : Hid ((∃ q, (l.take k).getLast? = some q ∧ lt q.key x0 = false) ∨ (∃ q ∈ l.take k, spot q.key = spot x0) → pairsE l = 7) := fun h => by
            have f := one_clash (l := l.take k) (p := ⟨x0, x1, false⟩) hK hV rfl h
            rw [HE.out (by rw [f]; decide), f]
          have HFn : Hid ((∀ q, (l.take k).getLast? = some q → lt q.key x0 = true) → (∀ q ∈ l.take k, spot q.key ≠ spot x0) → firstE l (k + 1) = 0) := fun h1 h2 => by
            show _ = _
            rw [HN.out]
            exact one_fine hK hV rfl h1 h2
          have HSz : Hid (x0.size ≤ 1000 ∧ x1.size ≤ 1000) := by
            refine ⟨?_, by omega⟩
            have h := hK
            unfold Stores.keyE at h
            split at h
            · contradiction
            split at h
            · contradiction
            · omega
          clear HN HE hK hV
          go_wp2_with fail
          refine (cK _).mono ?_
          rintro e w4 ⟨rfl, rfl⟩
          clear cK
          go_upto_region 19 with fail
          obtain ⟨F, HFl, HFc⟩ : ∃ F : Bool, Hid ((F = true → pairsE l = 7) ∧ (F = false → ∀ q, (l.take k).getLast? = some q → lt q.key x0 = true)) ∧ Hid ((k = 0 ∧ F = false) ∨ ∃ (j : Nat) (h : j < l.length), k = j + 1 ∧ F = !lt (l[j]).key x0) := by
            cases k with
            | zero => exact ⟨false, ⟨fun q => Bool.noConfusion q, fun _ q h => by simp at h⟩, .inl ⟨rfl, rfl⟩⟩
            | succ j =>
              have hl := take_last (l := l) (k := j) (by omega)
              refine ⟨!lt (l[j]).key x0, ⟨fun q => HC.out (.inl ⟨l[j], hl, by simpa using q⟩), fun q e h => ?_⟩, .inr ⟨j, by omega, rfl, rfl⟩⟩
              rw [hl] at h
              obtain rfl := Option.some.inj h
              simpa using q
          go_cut [69] from 54 to 68 (fun v we => v = .bool F ∧ Hid (Below w4.heap.size w4 we))
          case first => as_aux_lemma =>
            rcases HFc.out with ⟨hk0, rfl⟩ | ⟨j, hj, hk1, hF⟩
            · have i3 : decide (0 < k) = false := decide_eq_false (by omega)
              clear hk0
              go_quiet (fail)
              go_wp2_with fail
              go_meet
              case rel => exact ⟨rfl, below_drewN (Below.refl _ _) _⟩
            · have q0 := (HP.out _ HB.out j hj).1
              have i3 : decide (0 < k) = true := decide_eq_true (by omega)
              have i4 : (k : Int) - 1 = (j : Int) := by omega
              have i5 : IntKind.i64.wrap ((k : Int) - 1) = (j : Int) := by rw [i4, IntKind.wrap_i64]; omega
              have i6 : (j : Int) < (n : Int) := by omega
              generalize (l[j]).key = y at q0 hF
              clear hk1 hj
              by_cases hL : lt y x0 = true
              · have e2 : Op.bytesLess x0.toList y.toList = false := Stores.lt_asymm hL
                have e3 := eq_no (fun e => Stores.lt_ne hL e.symm : x0 ≠ y)
                rw [hL] at hF
                subst hF
                clear hL
                go_quiet (fail)
                go_wp2_with fail
                go_meet
                case rel => exact ⟨rfl, below_drewN (Below.refl _ _) _⟩
              · have hL' : lt y x0 = false := by simpa using hL
                rw [hL'] at hF
                subst hF
                by_cases hM : lt x0 y = true
                · have e2 : Op.bytesLess x0.toList y.toList = true := hM
                  clear hL hL' hM
                  go_quiet (fail)
                  go_wp2_with fail
                  go_meet
                  case rel => exact ⟨rfl, below_drewN (Below.refl _ _) _⟩
                · obtain rfl : x0 = y := Stores.lt_total (by simpa using hM) hL'
                  have e2 : Op.bytesLess x0.toList x0.toList = false := by simpa using hM
                  have e3 := eq_yes (rfl : x0 = x0)
                  clear hL hL' hM
                  go_quiet (fail)
                  go_wp2_with fail
                  go_meet
                  case rel => exact ⟨rfl, below_drewN (Below.refl _ _) _⟩
          obtain ⟨rfl, HBd⟩ := hcut
          have HB5 : Hid (Below w.heap.size w wc) := bt HB.out HBd.out
          have HO5 : Hid (wc.ownsRow w.heap.size 3 1 (.slice (some ⟨g, 0, none⟩) 256 256) 256 (ints (rowL (place (l.take k)) 0))) := below_own HO.out HBd.out
          clear HBd HB HO p0 p1 p2
          cases F with
          | true =>
            have HV : Hid (Told l w (.returned (.tuple #[.slice none 0 0, .int .i64 7])) wc) := told_no (E := 7) (HFl.out.1 rfl) (by decide) HB5.out
            clear HFl HFc HC HFn
            go_wp2_with fail
            go_ret2
            exact HV.out
          | false =>
            have HLs := HFl.out.2 rfl
            have HLs' : Hid (∀ q, (l.take k).getLast? = some q → lt q.key x0 = true) := HLs
            clear HLs HFl HFc
            go_wp2_with fail
            go_loopw [9] (fun iv wq => ∃ j : Nat, j ≤ k ∧ iv = .int .i64 (j : Int) ∧ Hid (∀ q ∈ l.take j, spot q.key ≠ spot x0) ∧ Hid (Below wc.heap.size wc wq)) (fun iv _ => k - (intOf iv).toNat)
            case atStart => exact ⟨0, by omega, rfl, (fun q hq => by simp at hq), Below.refl _ _⟩
            case round =>
              obtain ⟨j, hj, rfl, HJ, HBj⟩ := hrel
              have HBw : Hid (Below w.heap.size w wr) := bt HB5.out HBj.out
              by_cases hjk : j < k
              · have j3 : (j : Int) < (k : Int) := by omega
                have j4 : (j : Int) < (n : Int) := by omega
                have hjl : j < l.length := by omega
                obtain ⟨q0, _, _⟩ := HP.out _ HBw.out j hjl
                obtain ⟨p0, _, _⟩ := HPk.out _ HBw.out
                have hq0 := (HZ.out _ (List.getElem_mem hjl)).1
                have HTj : Hid (l.take (j + 1) = l.take j ++ [l[j]]) := List.take_succ_eq_append_getElem hjl
                have HMj : Hid (l[j] ∈ l.take k) := by rw [List.mem_take_iff_getElem]; exact ⟨j, by omega, rfl⟩
                generalize l[j] = y at q0 hq0 HTj HMj
                obtain ⟨y0, y1, y2⟩ := y
                simp only at q0 hq0
                have c1 : ∀ dd os, Calls Tryd.prog 34 #[.string y0] (grow (redrawn wr dd) os) fun e w'' => e = .returned (.int .i64 (spot y0 : Nat)) ∧ ∃ p : Regrown, w'' = grow (redrawn wr p.d) p.os := fun dd os => Calls.regrown_of (HS.out y0 hq0 _)
                have c2 : ∀ dd os, Calls Tryd.prog 34 #[.string x0] (grow (redrawn wr dd) os) fun e w'' => e = .returned (.int .i64 (spot x0 : Nat)) ∧ ∃ p : Regrown, w'' = grow (redrawn wr p.d) p.os := fun dd os => Calls.regrown_of (HS.out x0 hx0 _)
                have q0' := cell_regrown q0
                have p0' := cell_regrown p0
                obtain ⟨A, HA⟩ : ∃ A, Hid (spot y0 = A) := ⟨_, rfl⟩
                obtain ⟨C, HCx⟩ : ∃ C, Hid (spot x0 = C) := ⟨_, rfl⟩
                rw [HA.out] at c1
                rw [HCx.out] at c2
                obtain ⟨V, HV⟩ : ∃ V, Hid (((A : Int) == (C : Int)) = V) := ⟨_, rfl⟩
                have hV := HV.out
                clear q0 p0
                go_upto_region 24 with fail
                refine wp_region_quiet_below (by kernel_rfl) (by kernel_rfl) ?_
                repeat (quiet_step (fail))
                quiet_step (exact c1 _ _)
                repeat (quiet_step (fail))
                quiet_step (exact c2 _ _)
                repeat (quiet_step (fail))
                refine wpQuiet_nil ?_
                intro _ hw'
                obtain ⟨⟨dq, osq⟩, hw''⟩ := hw'
                subst hw''
                have HBn : Hid (Below wc.heap.size wc (grow (redrawn wr dq) osq)) := bt HBj.out (below_regrown wr dq osq)
                have HBn2 : Hid (Below w.heap.size w (grow (redrawn wr dq) osq)) := bt HBw.out (below_regrown wr dq osq)
                generalize grow (redrawn wr dq) osq = wn at HBn HBn2 ⊢
                clear c1 c2 q0' p0' hV
                cases V with
                | true =>
                  have hac : A = C := by have := HV.out; simp at this; omega
                  have HW : Hid (Told l w (.returned (.tuple #[.slice none 0 0, .int .i64 7])) wn) := told_no (E := 7) (HC.out (.inr ⟨_, HMj.out, by rw [HA.out, HCx.out, hac]⟩)) (by decide) HBn2.out
                  clear hac
                  go_wp2_with fail
                  go_ret2
                  exact HW.out
                | false =>
                  have HJn : Hid (∀ q ∈ l.take (j + 1), spot q.key ≠ spot x0) := by
                    intro q hq
                    rw [HTj.out] at hq
                    rcases List.mem_append.1 hq with hq | hq
                    · exact HJ.out q hq
                    · rw [List.mem_singleton.1 hq]
                      show spot y0 ≠ spot x0
                      rw [HA.out, HCx.out]
                      have := HV.out
                      simp at this
                      omega
                  go_wp2_with fail
                  go_roundw
                  case rel => exact ⟨j + 1, by omega, by go_num, HJn, HBn⟩
                  case measure => simp [intOf]; omega
              · have j3 : ¬ (j : Int) < (k : Int) := by omega
                obtain rfl : j = k := by omega
                have HFk : Hid (firstE l (j + 1) = 0) := HFn.out HLs'.out HJ.out
                have HO6 : Hid (wr.ownsRow w.heap.size 3 1 (.slice (some ⟨g, 0, none⟩) 256 256) 256 (ints (rowL (place (l.take j)) 0))) := below_own HO5.out HBj.out
                have HRw : Hid (rowL (place (l.take (j + 1))) 0 = (rowL (place (l.take j)) 0).set (spot x0) (placed x0 x1)) := by
                  show _ = _
                  rw [HT.out]
                  exact row_snoc (e := ⟨x0, x1, false⟩) HJ.out
                have HS1 : Hid (∀ w', Calls Tryd.prog 34 #[.string x0] w' fun e w'' => e = .returned (.int .i64 (spot x0 : Nat)) ∧ w'' = w') := fun w' => WalkSpotRef.spot_any x0 w' hx0
                have HPl : Hid (∀ w', Calls Tryd.prog 23 #[.string x0, .string x1] w' fun e w'' => e = .returned (.int .i64 (placed x0 x1)) ∧ Below w'.heap.size w' w'') := fun w' => WalkSpotRef.placed_any x0 x1 w' HSz.out.1 HSz.out.2
                have hC := spot_lt x0
                have HOld : Hid ((ints (rowL (place (l.take j)) 0))[spot x0]? = some (.int .i64 ((rowL (place (l.take j)) 0).getD (spot x0) 0))) := Lists.ints_at (by rw [row_len]; exact hC)
                generalize spot x0 = C at HS1 HRw hC HOld
                generalize placed x0 x1 = D at HPl HRw
                generalize (rowL (place (l.take j)) 0).getD C 0 = old at HOld
                obtain ⟨p0, p1, _⟩ := HPk.out _ HBw.out
                have i7 : (C : Int) < 256 := by omega
                have hgb : g ≠ b1 := by
                  have h := World.block_lt_of_cell? _ _ (HP.out w (Below.refl _ _) j (by omega)).1
                  simp only at h
                  omega
                clear HC HFn HLs' HJ HB5 HO5 HBj
                go_upto_region 26 with fail
                go_region_held3 (fun w' => w'.cell? ⟨b1, off1 + j * 3, none⟩ = some (.string x0) ∧ w'.cell? ⟨b1, off1 + j * 3 + 1, none⟩ = some (.string x1)) (first | exact ⟨s0, s1⟩ | exact ⟨p0, p1⟩ | exact ⟨(World.cell?_setCell_far _ _ _ _ hgb).trans s0, (World.cell?_setCell_far _ _ _ _ hgb).trans s1⟩ | go_keep) (first | (go_at_call 34; refine (HS1.out _).mono ?_; rintro e w5 ⟨rfl, rfl⟩) | (go_at_call 23; refine (HPl.out _).mono ?_; rintro e w6 ⟨rfl, b6⟩; have HB6 : Hid (Below wr.heap.size wr w6) := (Below.refl _ wr).drew.trans b6; have HO7 : Hid (w6.ownsRow w.heap.size 3 1 (.slice (some ⟨g, 0, none⟩) 256 256) 256 (ints (rowL (place (l.take j)) 0))) := below_own HO6.out HB6.out; have c6 : w6.cell? ⟨g, C, none⟩ = some (.int .i64 old) := (HO7.out.cellAt C (by omega)).trans HOld.out; have f6 : w6.frozen? ⟨g, C, none⟩ = false := HO7.out.frozenAt C; obtain ⟨s0, s1, _⟩ := HPk.out w6 (bt HBw.out HB6.out)))
                have HBn : Hid (Below w.heap.size w (w6.setCell ⟨g, C, none⟩ (.int .i64 D))) := (bt HBw.out HB6.out).setCell hgw _
                have HOn : Hid ((w6.setCell ⟨g, C, none⟩ (.int .i64 D)).ownsRow w.heap.size 3 1 (.slice (some ⟨g, 0, none⟩) 256 256) 256 (ints (rowL (place (l.take (j + 1))) 0))) := by
                  show World.ownsRow _ _ _ _ _ _ _
                  rw [HRw.out, show ints ((rowL (place (l.take j)) 0).set C D) = (ints (rowL (place (l.take j)) 0)).set C (.int .i64 D) from List.map_set]
                  exact (HO7.out.stored C _).1
                clear HB6 HO7 c6 f6 s0 s1 HO6 HBw p0 p1
                go_wp2_with fail
                go_roundw
                case rel => exact ⟨j + 1, by omega, by go_num, HFk, HOn, HBn⟩
                case measure => simp [intOf]; omega
        · have j2 : ¬ (k : Int) < (n : Int) := by omega
          obtain rfl : k = n := by omega
          have HE : Hid (pairsE l = 0) := by
            show _ = _
            unfold pairsE
            rw [if_neg (by omega), hln]
            exact HF.out
          rw [List.take_of_length_le (by omega)] at HO
          obtain ⟨f, Hf⟩ : ∃ f, Hid (place l = f) := ⟨_, rfl⟩
          have HVf : Hid (∀ p, Nums.valid (f p) = true) := by rw [← Hf.out]; exact place_valid l
          rw [Hf.out] at HO
          have HR0 : Hid (Rs w.heap.size (wr.alloc (.cells #[.slice (some ⟨g, 0, none⟩) 256 256] 30)) (.slice (some ⟨wr.heap.size, 0, none⟩) 1 1) [.slice (some ⟨g, 0, none⟩) 256 256] (rowsL f 1)) := rs_one HB.out.size (by rw [rowL_length]) HO.out
          have HB0 : Hid (Below w.heap.size w (wr.alloc (.cells #[.slice (some ⟨g, 0, none⟩) 256 256] 30))) := HB.out.alloc HB.out.size _
          clear HO HB HS HF
          go_upto_region 28 with fail
          generalize wr.heap.size = gz at HR0 ⊢
          generalize wr.alloc (.cells #[.slice (some ⟨g, 0, none⟩) 256 256] 30) = wz at HR0 HB0 ⊢
          go_loopw [4, 10] (fun s4 s10 wq => ∃ (j : Nat) (vs : List Value) (a4 : Option Addr) (c4 : Nat), j ≤ 8 ∧ s4 = .slice a4 (2 ^ (8 - j)) c4 ∧ Hid (vs[j]? = some (.slice a4 (2 ^ (8 - j)) c4)) ∧ Hid (Rs w.heap.size wq s10 vs (rowsL f (j + 1))) ∧ Hid (Below w.heap.size w wq)) (fun s4 _ _ => len s4)
          case atStart => exact ⟨0, [.slice (some ⟨g, 0, none⟩) 256 256], some ⟨g, 0, none⟩, 256, by omega, rfl, rfl, HR0, HB0⟩
          case round =>
            clear HR0 HB0
            obtain ⟨j, vs, a4, c4, hj8, rfl, Hvs, HRs, HB⟩ := hrel
            by_cases hj : j < 8
            · obtain ⟨R', HR'⟩ : ∃ R', Hid (2 ^ (8 - (j + 1)) = R') := ⟨2 ^ (8 - (j + 1)), rfl⟩
              have hR : 2 ^ (8 - j) = 2 * R' := by rw [← HR'.out, Nat.mul_comm, ← Nat.pow_succ]; congr 1; omega
              have hR1 : 1 ≤ R' := by rw [← HR'.out]; exact Nat.pow_pos (by decide)
              have hR2 : R' ≤ 128 := by rw [← HR'.out]; exact Nat.le_trans (Nat.pow_le_pow_right (by decide) (show 8 - (j + 1) ≤ 7 by omega)) (by decide)
              obtain ⟨a5, c5, h5, r5⟩ := rs_last HRs.out
              rw [Hvs.out] at h5
              obtain ⟨rfl, rfl⟩ : a4 = a5 ∧ c4 = c5 := by simpa using h5
              rw [hR] at r5 ⊢
              obtain ⟨R, HRr⟩ : ∃ R, Hid (2 * R' = R) := ⟨_, rfl⟩
              have hRR := HRr.out
              have HrR : Hid (2 ^ (8 - j) = R) := hR.trans hRR
              rw [hRR] at r5 ⊢
              obtain ⟨b4, off4, rfl, hc4⟩ := r5.2.2 (by omega)
              have HCe : Hid (∀ w', Below wr.heap.size wr w' → ∀ p, p < R → w'.cell? ⟨b4, off4 + p, none⟩ = some (.int .i64 ((rowL f j).getD p 0))) := fun w' b p hp => Lists.cell_below b (hc4 p _ (Lists.ints_at (by rw [rowL_length, HrR.out]; exact hp)))
              have i8 : (1 : Int) < (R : Int) := by omega
              clear h5 r5 hc4 hR Hvs
              go_wp2_with fail
              go_loopw [11, 12] (fun v iv wq => ∃ m I : Nat, m ≤ R' ∧ I = 2 * m ∧ iv = .int .i64 (I : Int) ∧ Hid (wq.ownsRow wr.heap.size 3 1 v m (ints ((rowL f (j + 1)).take m))) ∧ Hid (Below wr.heap.size wr wq)) (fun _ iv _ => R + 2 - (intOf iv).toNat)
              case atStart => exact ⟨0, 0, by omega, rfl, rfl, by rw [List.take_zero]; exact World.ownsRow_nil _ _ _ _, Below.refl _ _⟩
              case round =>
                rename World => wq
                obtain ⟨m, I, hm, hI, rfl, HO5, HB5⟩ := hrel
                by_cases hml : m < R'
                · have i9 : (I : Int) < (R : Int) := by omega
                  have q0 := HCe.out _ HB5.out I (by omega)
                  have q1 := HCe.out _ HB5.out (I + 1) (by omega)
                  have HN : Hid ((rowL f (j + 1)).take (m + 1) = (rowL f (j + 1)).take m ++ [Ways.node ((rowL f j).getD I 0) ((rowL f j).getD (I + 1) 0)]) := by
                    show _ = _
                    rw [rowL_take f (by rw [HR'.out]; exact hml), rowL_next f hj (by rw [HR'.out]; exact hml), hI]
                  have HX0 : Hid (Nums.valid ((rowL f j).getD I 0) = true) := rowL_valid HVf.out j _ (by rw [List.getD_eq_getElem?_getD, List.getElem?_eq_getElem (by rw [rowL_length, HrR.out]; omega)]; exact List.getElem_mem _)
                  have HX1 : Hid (Nums.valid ((rowL f j).getD (I + 1) 0) = true) := rowL_valid HVf.out j _ (by rw [List.getD_eq_getElem?_getD, List.getElem?_eq_getElem (by rw [rowL_length, HrR.out]; omega)]; exact List.getElem_mem _)
                  generalize (rowL f j).getD I 0 = X0 at q0 HN HX0
                  generalize (rowL f j).getD (I + 1) 0 = X1 at q1 HN HX1
                  obtain ⟨J, hJ⟩ : ∃ J : Nat, I + 1 = J := ⟨_, rfl⟩
                  rw [hJ] at q1
                  have e1 : (I : Int) + 1 = (J : Int) := by omega
                  have e2 : IntKind.i64.wrap (J : Int) = (J : Int) := by rw [IntKind.wrap_i64]; omega
                  have e3 : (J : Int) < (R : Int) := by omega
                  have cN : ∀ dd os, Calls Tryd.prog 35 #[.int .i64 X0, .int .i64 X1] (grow (redrawn wq dd) os) fun e w'' => e = .returned (.int .i64 (Ways.node X0 X1)) ∧ ∃ p : Regrown, w'' = grow (redrawn wq p.d) p.os := fun dd os => Calls.regrown_of (WalkTreeRef.node_any X0 X1 _ HX0.out HX1.out)
                  generalize Ways.node X0 X1 = Y at cN HN
                  have q0' := cell_regrown q0
                  have q1' := cell_regrown q1
                  have HI : Hid (I = 2 * m) := hI
                  clear q0 q1 hJ hI
                  go_upto_region 33 with fail
                  refine wp_region_quiet_below (by kernel_rfl) (by kernel_rfl) ?_
                  repeat (quiet_step (fail))
                  quiet_step (exact cN _ _)
                  repeat (quiet_step (fail))
                  refine wpQuiet_nil ?_
                  intro _ hw'
                  obtain ⟨⟨dq, osq⟩, hw''⟩ := hw'
                  subst hw''
                  have HB6 : Hid (Below wr.heap.size wr (grow (redrawn wq dq) osq)) := bt HB5.out (below_regrown wq dq osq)
                  have HO6 : Hid ((grow (redrawn wq dq) osq).ownsRow wr.heap.size 3 1 u11 m (ints ((rowL f (j + 1)).take m))) := below_own HO5.out (below_regrown wq dq osq)
                  generalize grow (redrawn wq dq) osq = wn at HB6 HO6 ⊢
                  clear cN q0' q1' HB5 HO5 e1 e2 e3
                  go_upto_region 34 with fail
                  go_wp2_with (at_builtin; go_must (refine wpList_append_own _ rfl (.tmp 128) (.tmp 130) 30 rfl wr.heap.size 3 i0 (.int .i64 0) 1 8 Tryd.underlying30 hi hz0 hz1 hz2 rfl (by decide) _ _ _ rfl (HO6.out.alloc _) ⟨_, 0, none⟩ 1 1 [.int .i64 Y] rfl rfl (WalkRef.one_at _ _ _) (WalkRef.one_cell _ _) (by unfold maxLen; omega) (by omega) (by have := HB6.out.size; simp; omega) ?_); intro v1 wx o1 g1 z1; clear z1)
                  have HBN : Hid (Below wr.heap.size wr wx) := (HB6.out.alloc HB6.out.size _).grown g1 (by have := HB6.out.size; simp; omega) (fun k hk => (HO6.out.lt k hk).1)
                  have HON : Hid (wx.ownsRow wr.heap.size 3 1 v1 (m + 1) (ints ((rowL f (j + 1)).take (m + 1)))) := by
                    show World.ownsRow _ _ _ _ _ _ _
                    rw [HN.out, show ints ((rowL f (j + 1)).take m ++ [Y]) = ints ((rowL f (j + 1)).take m) ++ [.int .i64 Y] from List.map_append]
                    exact o1
                  clear g1 o1 HO6 HB6
                  go_wp2_with fail
                  go_roundw
                  case rel => exact ⟨m + 1, I + 2, by omega, by have := HI.out; omega, by go_num, HON, HBN⟩
                  case measure => simp [intOf]; omega
                · have i9 : ¬ (I : Int) < (R : Int) := by omega
                  obtain rfl : m = R' := by omega
                  have hl1 : (rowL f (j + 1)).length = m := by rw [rowL_length, HR'.out]
                  rw [List.take_of_length_le (by omega)] at HO5
                  have HRs6 : Hid (Rs w.heap.size wq u10 vs (rowsL f (j + 1))) := HRs.out.below HB5.out
                  have HB6 : Hid (Below w.heap.size w wq) := bt HB.out HB5.out
                  obtain ⟨a7, c7, rfl, _, _⟩ := owns_row HO5.out
                  have HO7 : Hid (wq.ownsRow w.heap.size 3 1 (.slice a7 m c7) m (ints (rowL f (j + 1)))) := owns_base HO5.out HB.out.size
                  have hrl : (rowsL f (j + 1)).length = j + 1 := rowsL_length _ _
                  have HOw : Hid (wq.ownsRow w.heap.size 30 1 u10 (j + 1) vs) := by
                    have h := HRs6.out.own
                    rw [hrl] at h
                    exact h
                  clear HO5 HB5 HRs HB HCe
                  go_upto_region 36 with fail
                  go_wp2_with (at_builtin; go_must (refine wpList_append_own _ rfl (.tmp 133) (.tmp 135) 23 rfl w.heap.size 30 j0 (.slice none 0 0) 1 24 Tryd.underlying23 hjR hy0 hy1 hy2 rfl (by decide) _ _ _ rfl (HOw.out.alloc _) ⟨_, 0, none⟩ 1 1 [.slice a7 m c7] rfl rfl (WalkRef.one_at _ _ _) (fun u hu => by simp at hu; subst hu; rfl) (by unfold maxLen; omega) (by omega) (by have := HB6.out.size; simp; omega) ?_); intro v1 wx o1 g1 z1; clear z1)
                  have HBN : Hid (Below w.heap.size w wx) := (HB6.out.alloc HB6.out.size _).grown g1 (by have := HB6.out.size; simp; omega) (fun k hk => (HOw.out.lt k hk).1)
                  have HRn : Hid (Rs w.heap.size wx v1 (vs ++ [.slice a7 m c7]) (rowsL f (j + 1 + 1))) := by
                    rw [rowsL_next]
                    have hA := HRs6.out.below ((Below.refl _ wq).alloc (Nat.le_refl _) (.cells #[.slice a7 m c7] 30))
                    have hq := HO7.out.alloc (.cells #[.slice a7 m c7] 30)
                    have := hA.next (a := a7) (c := c7) (q := rowL f (j + 1)) (by rw [hl1]; exact hq) (by rw [hl1, hrl]; exact o1) g1
                    rw [hl1] at this
                    exact this
                  have HvN : Hid ((vs ++ [Value.slice a7 m c7])[j + 1]? = some (.slice a7 (2 ^ (8 - (j + 1))) c7)) := by
                    have hv := HOw.out.1
                    show _ = _
                    rw [HR'.out, List.getElem?_append_right (by omega), show j + 1 - vs.length = 0 by omega]
                    rfl
                  have HR2 : Hid (m = 2 ^ (8 - (j + 1))) := HR'.out.symm
                  clear g1 o1 HOw HO7 HRs6 HB6
                  go_wp2_with fail
                  go_roundw
                  case rel => exact ⟨j + 1, _, a7, c7, by omega, by rw [← HR2.out], HvN, HRn, HBN⟩
                  case measure => simp [len]; omega
            · obtain rfl : j = 8 := by omega
              have HT : Hid (Told l w (.returned (.tuple #[u10, .int .i64 0])) wr) := by
                refine ⟨_, vs, by rw [HE.out]; rfl, ?_, HB.out⟩
                rw [if_pos HE.out, Hf.out]
                exact HRs.out
              rw [show 2 ^ (8 - 8) = 1 from rfl]
              clear HRs Hvs
              go_wp2_with fail
              go_ret2
              exact HT.out
end Go.Proofs.YtekahahaknamfaiDoor.WalkRowsRef
