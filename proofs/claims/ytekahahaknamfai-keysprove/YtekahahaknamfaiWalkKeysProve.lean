/-
  The walk of KeysProve: each pair is proved by its proof, and that a key is not there, if no other one stands in its place; what has another value is not proved, or two texts have one sum.
-/
import Derived.Test.YtekahahaknamfaiWalkKy
import Derived.Test.YtekahahaknamfaiKeyTrees
import Derived.Test.YtekahahaknamfaiKeyOnes
import Derived.Test.YtekahahaknamfaiPairRows
import Derived.Test.YtekahahaknamfaiLists
import Derived.Test.YtekahahaknamfaiErrs
import Derived.Test.YtekahahaknamfaiWalkKeyClash
import Derived.BigQuiet
import Derived.Deep.QuietTactic
import Derived.Deep.CutBlock
import Derived.Lib.QuietBelow
namespace Go.Proofs.Ytekahahaknamfai.WalkKeysProve
open Go.RowKit
open Go.Sort (grow)
open Nums (str)
open Lists (Row ints bt)
open Keeps (owns_row)
open Wides (Wide)
open Stores (Pair keyE)
open PairRows (cells)
open Errs (errv errv0 errv_pos)
open KeyTrees
open KeyOnes (one_wide one_fault key_no key_yes empty_yes empty_no)

/-- the pair of the fact -/
def fact : List Pair := [⟨⟨#[97]⟩, ⟨#[120]⟩, false⟩]
theorem fact_ok : pairsE fact = 0 := by
  rw [show pairsE fact = _ from one_fault _ _]
  decide
theorem prove_is {l : List Pair} (h : pairsE l = 0) {k : ByteArray} (hk : keyE k = 0) : proveE l k = 0 ∧ proveL l k = beside (place l) (spot k) := by
  have h1 : proveE l k = 0 := by
    unfold proveE
    rw [if_neg (fun z => z h)]
    exact hk
  exact ⟨h1, if_pos h1⟩
theorem prove_no {l : List Pair} (h : pairsE l = 0) (k : ByteArray) : proveE l k = keyE k := by
  unfold proveE
  rw [if_neg (fun z => z h)]

theorem placed_data (k v : ByteArray) : Sums.sum ((0 : UInt8) :: (k ++ (⟨#[0]⟩ : ByteArray) ++ v).data.toList) = placed k v := by
  unfold placed
  simp [ByteArray.data_append]
theorem below_drewN {B : Nat} {a w : World} (h : Below B a w) (n : Nat) : Below B a (w.drewN n) := ⟨h.os, h.tape, h.output, h.size, h.block⟩
/-- which of the first i stands at the place of a key, if one does -/
def Found (l : List Pair) (k : ByteArray) (i : Nat) (A : Int) : Prop :=
  (A = -1 ∧ ∀ (j : Nat) (h : j < l.length), j < i → spot (l[j]).key ≠ spot k) ∨ ∃ (j : Nat) (h : j < l.length), A = (j : Int) ∧ spot (l[j]).key = spot k
theorem Found.start (l : List Pair) (k : ByteArray) : Found l k 0 (-1) := .inl ⟨rfl, fun j _ h => by omega⟩
theorem Found.pass {l : List Pair} {k : ByteArray} {i : Nat} {A : Int} (h : Found l k i A) (hi : i < l.length) (hn : spot (l[i]).key ≠ spot k) : Found l k (i + 1) A := by
  rcases h with ⟨rfl, h⟩ | h
  · refine .inl ⟨rfl, fun j hj hlt => ?_⟩
    by_cases e : j = i
    · subst e
      exact hn
    · exact h j hj (by omega)
  · exact .inr h
theorem Found.here {l : List Pair} {k : ByteArray} {i : Nat} (hi : i < l.length) (h : spot (l[i]).key = spot k) : Found l k (i + 1) (i : Int) := .inr ⟨i, hi, rfl, h⟩

set_option maxHeartbeats 8000000 in
set_option maxRecDepth 100000 in
theorem walk (a : Option Addr) (n cap : Nat) (l : List Pair) (_ : l.length * 40 ≤ 140737488351232) (hw : ∀ e ∈ l, e.key.size ≤ maxLen ∧ e.val.size ≤ maxLen) (key : ByteArray) (hk : key.size ≤ 140737488351232) (value : ByteArray) (hv : value.size ≤ 140737488351232) (w : World) (hr : Wide 3 w a n cap (cells l)) :
    Calls Try.prog 4 #[.slice a n cap, .string key, .string value] w fun e w' => e = .returned (.bool true) ∧ Below w.heap.size w w' := by
  have hln := PairRows.len_of hr
  have HW : Hid (∀ w', Below w.heap.size w w' → Wide 3 w' a n cap (cells l)) := fun w' b => hr.below b
  have HZ : Hid (∀ e ∈ l, e.key.size ≤ maxLen ∧ e.val.size ≤ maxLen) := hw
  have HM : Hid (key.size ≤ maxLen ∧ value.size ≤ maxLen) := ⟨by unfold maxLen; omega, by unfold maxLen; omega⟩
  have HBi : Hid (∀ k : ByteArray, k.size ≤ maxLen → ∀ w', Calls Try.prog 11 #[.string k] w' fun e w'' => e = .returned (.tuple #[.string (str (bitsV k)), errv (keyE k)]) ∧ Below w'.heap.size w' w'') := fun k h w' => WalkKy.bits_any k w' h
  have HPr : Hid (pairsE l = 0 → ∀ k : ByteArray, k.size ≤ maxLen → keyE k = 0 → ∀ w', Below w.heap.size w w' → Calls Try.prog 9 #[.slice a n cap, .string k] w' fun e w'' => ∃ a' c', e = .returned (.tuple #[.slice a' 8 c', .nilIface]) ∧ Row w'' a' 8 c' (ints (beside (place l) (spot k))) ∧ Below w'.heap.size w' w'') := fun h0 k h h2 w' b => by
    have c := WalkKy.prove_any l a n cap k w' (hr.below b) hw h
    rw [(prove_is h0 h2).1, (prove_is h0 h2).2, errv0, beside_length] at c
    refine c.mono ?_
    rintro e w'' ⟨v, rfl, o, b'⟩
    obtain ⟨a', c', rfl, r', _⟩ := owns_row o
    exact ⟨a', c', rfl, r', b'⟩
  have HPn : Hid (pairsE l = 0 → ∀ k : ByteArray, k.size ≤ maxLen → keyE k ≠ 0 → ∀ w', Below w.heap.size w w' → Calls Try.prog 9 #[.slice a n cap, .string k] w' fun e w'' => ∃ v, e = .returned (.tuple #[v, .iface 54 (.int .i64 (keyE k : Nat))]) ∧ Below w'.heap.size w' w'') := fun h0 k h h2 w' b => by
    have c := WalkKy.prove_any l a n cap k w' (hr.below b) hw h
    rw [prove_no h0 k, errv_pos _ h2] at c
    refine c.mono ?_
    rintro e w'' ⟨v, rfl, o, b'⟩
    exact ⟨v, rfl, b'⟩
  have HCk : Hid (∀ (root : Int) (k v : ByteArray) (th : Bool) (p : List Int) (x : Option Addr) (c : Nat) w', k.size ≤ maxLen → v.size ≤ maxLen → Row w' x 8 c (ints p) → Calls Try.prog 10 #[.int .i64 root, .string k, .string v, .bool th, .slice x 8 c] w' fun e w'' => e = .returned (errv (checkE root k v th p)) ∧ Below w'.heap.size w' w'') := fun root k v th p x c w' h1 h2 r => WalkKy.check_any root k v th p x 8 c w' h1 h2 r (by decide)
  have cRl := fun w' (b : Below w.heap.size w w') => WalkKy.root_any l a n cap w' (hr.below b) hw
  clear hr hw
  have HB1 : Hid (Below w.heap.size w (w.alloc (.cells #[.string ⟨#[97]⟩, .string ⟨#[120]⟩, .bool false] 38))) := (Below.refl _ _).alloc (Nat.le_refl _) _
  have HW1 : Hid (Wide 3 (w.alloc (.cells #[.string ⟨#[97]⟩, .string ⟨#[120]⟩, .bool false] 38)) (some ⟨w.heap.size, 0, none⟩) 1 1 (cells fact)) := one_wide w _ _ _
  go_enter Try.func4, Try.ntmps4
  go_upto_region 2 with fail
  generalize w.alloc (.cells #[.string ⟨#[97]⟩, .string ⟨#[120]⟩, .bool false] 38) = w1 at HB1 HW1 ⊢
  have hfz : ∀ e ∈ fact, e.key.size ≤ maxLen ∧ e.val.size ≤ maxLen := by
    intro e he
    rw [List.mem_singleton.1 he]
    exact ⟨by decide, by decide⟩
  have cR := WalkKy.root_any fact _ 1 1 w1 HW1.out hfz
  rw [show rootV fact = rootK fact from if_pos fact_ok, fact_ok, errv0] at cR
  have cP := fun w' (b : Below w1.heap.size w1 w') => WalkKy.prove_any fact _ 1 1 ⟨#[97]⟩ w' (HW1.out.below b) hfz (by decide)
  rw [(prove_is fact_ok (k := ⟨#[97]⟩) (by decide)).1, (prove_is fact_ok (k := ⟨#[97]⟩) (by decide)).2, errv0, beside_length] at cP
  have HCf : Hid (checkE (rootK fact) ⟨#[97]⟩ ⟨#[120]⟩ true (beside (place fact) (spot ⟨#[97]⟩)) = 0) := (check_pair fact_ok (p := ⟨⟨#[97]⟩, ⟨#[120]⟩, false⟩) (List.mem_singleton.2 rfl)).2
  clear hfz
  generalize rootK fact = RF at cR HCf
  generalize beside (place fact) (spot ⟨#[97]⟩) = PF at cP HCf
  go_wp2_with fail
  refine cR.mono ?_
  rintro e w2 ⟨rfl, b2⟩
  have HB2 : Hid (Below w.heap.size w w2) := bt HB1.out b2
  have cP2 := cP w2 b2
  clear cR b2 cP
  go_wp2_with fail
  refine cP2.mono ?_
  rintro e w3 ⟨v3, rfl, o3, b3⟩
  obtain ⟨a3, c3, rfl, r3, _⟩ := owns_row o3
  have HB3 : Hid (Below w.heap.size w w3) := bt HB2.out b3
  have cC := HCk.out RF ⟨#[97]⟩ ⟨#[120]⟩ true PF a3 c3 w3 (by decide) (by decide) r3
  rw [HCf.out, errv0] at cC
  clear cP2 o3 b3 r3 HB2
  go_wp2_with fail
  refine cC.mono ?_
  rintro e w4 ⟨rfl, b4⟩
  have HB4 : Hid (Below w.heap.size w w4) := bt HB3.out b4
  clear cC b4 HB3 HCf HW1 HB1
  go_wp2_with fail
  refine (cRl _ HB4.out).mono ?_
  rintro e w5 ⟨rfl, b5⟩
  have HB5 : Hid (Below w.heap.size w w5) := bt HB4.out b5
  clear cRl b5 HB4
  by_cases hE : pairsE l = 0
  rotate_left
  · rw [errv_pos _ hE]
    generalize ((pairsE l : Nat) : Int) = E
    clear hE HPr HPn
    go_wp2_with fail
    go_ret
    exact ⟨rfl, HB5.out⟩
  rw [hE, errv0, show rootV l = rootK l from if_pos hE]
  have HE : Hid (pairsE l = 0) := hE
  have hn60 : n ≤ 60 := by rw [← hln]; exact (pairs_first hE).1
  have HCp : Hid (∀ e ∈ l, keyE e.key = 0 ∧ checkE (rootK l) e.key e.val true (beside (place l) (spot e.key)) = 0) := fun e he => ⟨(pairs_all hE e he).1, (check_pair hE he).2⟩
  have HCn : Hid (∀ k, keyE k = 0 → (∀ e ∈ l, spot e.key ≠ spot k) → checkE (rootK l) k ⟨#[]⟩ false (beside (place l) (spot k)) = 0) := fun k h1 h2 => check_none h1 h2
  have HCo : Hid (keyE key = 0 → value.size ≤ 200 → checkE (rootK l) key value true (beside (place l) (spot key)) = if Ways.upL (placed key value) (beside (place l) (spot key)) (turns (spot key)) = rootK l then 0 else 8) := fun h1 h2 => check_other h1 h2
  have HMe : Hid (∀ e ∈ l, e.key = key → placed key value ≠ placed key e.val → Ways.upL (placed key value) (beside (place l) (spot key)) (turns (spot key)) = rootK l → Ways.meetsL (placed key value) (placed key e.val) (beside (place l) (spot key)) (turns (spot key)) = true) := fun e he h => by
    subst h
    exact meets_other hE he
  have HPv : Hid (∀ x ∈ beside (place l) (spot key), Nums.valid x = true) := List.all_eq_true.1 (beside_ok l (spot key))
  have HPr1 := HPr.out hE
  have HPr2 : Hid (∀ k : ByteArray, k.size ≤ maxLen → keyE k = 0 → ∀ w', Below w.heap.size w w' → Calls Try.prog 9 #[.slice a n cap, .string k] w' fun e w'' => ∃ a' c', e = .returned (.tuple #[.slice a' 8 c', .nilIface]) ∧ Row w'' a' 8 c' (ints (beside (place l) (spot k))) ∧ Below w'.heap.size w' w'') := HPr1
  have HPn1 := HPn.out hE
  have HPn2 : Hid (∀ k : ByteArray, k.size ≤ maxLen → keyE k ≠ 0 → ∀ w', Below w.heap.size w w' → Calls Try.prog 9 #[.slice a n cap, .string k] w' fun e w'' => ∃ v, e = .returned (.tuple #[v, .iface 54 (.int .i64 (keyE k : Nat))]) ∧ Below w'.heap.size w' w'') := HPn1
  clear hE HPr HPn HPr1 HPn1
  obtain ⟨RL, HRL⟩ : ∃ RL, Hid (rootK l = RL) := ⟨_, rfl⟩
  rw [HRL.out] at HCp HCn HCo HMe ⊢
  go_wp2_with fail
  go_loopw [13] (fun iv wr => ∃ i : Nat, i ≤ n ∧ iv = .int .i64 (i : Int) ∧ Hid (Below w.heap.size w wr)) (fun iv _ => n - (intOf iv).toNat)
  case atStart => exact ⟨0, Nat.zero_le _, rfl, HB5⟩
  case round =>
    clear HB5
    obtain ⟨i, hi, rfl, HB⟩ := hrel
    by_cases hlt : i < n
    · have i1 : (i : Int) < (n : Int) := by omega
      have hil : i < l.length := by omega
      obtain ⟨b0, off0, rfl, _⟩ := (HW.out w (Below.refl _ _)).2.2 (by omega)
      have HP : Hid (∀ w', Below w.heap.size w w' → w'.cell? ⟨b0, off0 + i * 3, none⟩ = some (.string (l[i]).key) ∧ w'.cell? ⟨b0, off0 + i * 3 + 1, none⟩ = some (.string (l[i]).val) ∧ w'.cell? ⟨b0, off0 + i * 3 + 2, none⟩ = some (.bool (l[i]).gone)) := fun w' b => PairRows.at_three (HW.out w' b) i hil
      have HX : Hid (keyE (l[i]).key = 0 ∧ checkE RL (l[i]).key (l[i]).val true (beside (place l) (spot (l[i]).key)) = 0) := HCp.out _ (List.getElem_mem hil)
      obtain ⟨hx0, hx1⟩ := HZ.out _ (List.getElem_mem hil)
      generalize l[i] = x at HP HX hx0 hx1
      obtain ⟨x0, x1, x2⟩ := x
      simp only at HP HX hx0 hx1
      obtain ⟨p0, p1, _⟩ := HP.out _ HB.out
      go_wp2_with fail
      refine (HPr2.out x0 hx0 HX.out.1 _ HB.out).mono ?_
      rintro e w6 ⟨a6, c6, rfl, r6, b6⟩
      have HB6 : Hid (Below w.heap.size w w6) := bt HB.out b6
      obtain ⟨q0, q1, _⟩ := HP.out _ HB6.out
      have cC : ∀ dd os, Calls Try.prog 10 #[.int .i64 RL, .string x0, .string x1, .bool true, .slice a6 8 c6] (grow (redrawn w6 dd) os) fun e w'' => e = .returned .nilIface ∧ ∃ p : Regrown, w'' = grow (redrawn w6 p.d) p.os := fun dd os => by
        have h := HCk.out RL x0 x1 true _ a6 c6 (grow (redrawn w6 dd) os) hx0 hx1 (r6.below (below_regrown w6 dd os))
        rw [HX.out.2, errv0] at h
        exact Calls.regrown_of h
      have q0' := cell_regrown q0
      have q1' := cell_regrown q1
      clear p0 p1 q0 q1 b6 r6
      go_upto_region 13 with fail
      refine wp_region_quiet_below (by kernel_rfl) (by kernel_rfl) ?_
      repeat (quiet_step (fail))
      quiet_step (exact cC _ _)
      repeat (quiet_step (fail))
      refine wpQuiet_nil ?_
      intro _ hw'
      obtain ⟨⟨dq, osq⟩, hw''⟩ := hw'
      subst hw''
      have HB7 : Hid (Below w.heap.size w (grow (redrawn w6 dq) osq)) := bt HB6.out (below_regrown w6 dq osq)
      generalize grow (redrawn w6 dq) osq = w7 at HB7 ⊢
      clear cC q0' q1' HB6
      go_wp2_with fail
      go_roundw
      case rel => exact ⟨i + 1, by omega, by go_num, HB7⟩
      case measure => simp [intOf]; omega
    · have i1 : ¬ (i : Int) < (n : Int) := by omega
      by_cases hK : keyE key = 0
      rotate_left
      · have cP := HPn2.out key HM.out.1 hK _ HB.out
        have HKn : Hid (key.size = 0 ∨ (key.size ≠ 0 ∧ 200 < key.size)) := key_no hK
        clear hK
        generalize ((keyE key : Nat) : Int) = E at cP
        go_wp2_with fail
        refine cP.mono ?_
        rintro e w6 ⟨v6, rfl, b6⟩
        have HB6 : Hid (Below w.heap.size w w6) := bt HB.out b6
        clear cP b6
        rcases HKn.out with h0 | ⟨h0, h2⟩
        · have e0 := empty_yes h0
          clear h0
          go_wp2_with fail
          go_ret
          exact ⟨rfl, HB6.out⟩
        · have e0 := empty_no h0
          have i0 : (200 : Int) < (key.size : Int) := by omega
          clear h0 h2
          go_wp2_with fail
          go_ret
          exact ⟨rfl, HB6.out⟩
      have cP := HPr2.out key HM.out.1 hK _ HB.out
      have cB := HBi.out key HM.out.1
      rw [hK, errv0] at cB
      have sK : (str (bitsV key)).size = 8 := by rw [Nums.str_size, show bitsV key = bitsT (spot key) from if_pos hK, bitsT_length]
      have HBk : Hid (str (bitsV key) = str (bitsT (spot key))) := by show _ = _; rw [show bitsV key = bitsT (spot key) from if_pos hK]
      obtain ⟨SK, HSK⟩ : ∃ SK, Hid (str (bitsV key) = SK) := ⟨_, rfl⟩
      rw [HSK.out] at cB sK HBk
      have HK : Hid (keyE key = 0) := hK
      have HCo2 := HCo.out hK
      have HCo3 : Hid (value.size ≤ 200 → checkE RL key value true (beside (place l) (spot key)) = if Ways.upL (placed key value) (beside (place l) (spot key)) (turns (spot key)) = RL then 0 else 8) := HCo2
      clear hK HCo HCo2 HPr2 HPn2
      go_wp2_with fail
      refine cP.mono ?_
      rintro e w6 ⟨a6, c6, rfl, r6, b6⟩
      have HB6 : Hid (Below w.heap.size w w6) := bt HB.out b6
      have HR6 : Hid (∀ w', Below w6.heap.size w6 w' → Row w' a6 8 c6 (ints (beside (place l) (spot key)))) := fun w' b => r6.below b
      clear cP r6 b6 HB
      go_wp2_with fail
      refine (cB _).mono ?_
      rintro e w7 ⟨rfl, b7⟩
      have HB7 : Hid (Below w6.heap.size w6 w7) := b7
      have i8 : ((SK.size : Int) != 8) = false := by rw [sK]; rfl
      clear cB b7
      go_wp2_with fail
      clear i8 sK
      go_loopw [19, 20] (fun av iv wr => ∃ (i : Nat) (A : Int), i ≤ n ∧ av = .int .i64 A ∧ iv = .int .i64 (i : Int) ∧ Hid (Found l key i A) ∧ Hid (Below w6.heap.size w6 wr)) (fun _ iv _ => n - (intOf iv).toNat)
      case atStart => exact ⟨0, -1, Nat.zero_le _, rfl, rfl, Found.start l key, HB7⟩
      case round =>
        clear HB7
        obtain ⟨i, A, hi, rfl, rfl, HF, HB⟩ := hrel
        have HBw : Hid (Below w.heap.size w wr) := bt HB6.out HB.out
        by_cases hlt : i < n
        · have i1 : (i : Int) < (n : Int) := by omega
          have hil : i < l.length := by omega
          obtain ⟨b0, off0, rfl, _⟩ := (HW.out w (Below.refl _ _)).2.2 (by omega)
          have HP : Hid (∀ w', Below w.heap.size w w' → w'.cell? ⟨b0, off0 + i * 3, none⟩ = some (.string (l[i]).key)) := fun w' b => (PairRows.at_three (HW.out w' b) i hil).1
          have hx0 := (HZ.out _ (List.getElem_mem hil)).1
          have hKx := (HCp.out _ (List.getElem_mem hil)).1
          have HN1 : Hid (spot (l[i]).key ≠ spot key → Found l key (i + 1) A) := fun h => HF.out.pass hil h
          have HN2 : Hid (spot (l[i]).key = spot key → Found l key (i + 1) (i : Int)) := fun h => Found.here hil h
          generalize l[i] = x at HP hx0 hKx HN1 HN2
          obtain ⟨x0, x1, x2⟩ := x
          simp only at HP hx0 hKx HN1 HN2
          have p0 := HP.out _ HBw.out
          have cB := HBi.out x0 hx0
          rw [hKx, errv0, show bitsV x0 = bitsT (spot x0) from if_pos hKx] at cB
          have HBx : Hid (str (bitsT (spot x0)) = SK ↔ spot x0 = spot key) := by
            rw [HBk.out]
            exact ⟨fun h => bitsT_inj (spot_lt _) (spot_lt _) (Nums.str_inj h), fun h => by rw [h]⟩
          generalize str (bitsT (spot x0)) = SX at cB HBx
          clear hKx
          go_wp2_with fail
          refine (cB _).mono ?_
          rintro e w8 ⟨rfl, b8⟩
          have HB8 : Hid (Below w6.heap.size w6 w8) := bt HB.out b8
          clear cB b8 p0
          by_cases hS : SX = SK
          · have e1 : (SX.toList == SK.toList) = true := by rw [hS]; simp
            have HFn := HN2.out (HBx.out.1 hS)
            have HFn2 : Hid (Found l key (i + 1) (i : Int)) := HFn
            clear hS HFn HN1 HN2 HF
            go_wp2_with fail
            go_roundw
            case rel => exact ⟨i + 1, (i : Int), by omega, rfl, by go_num, HFn2, HB8⟩
            case measure => simp [intOf]; omega
          · have e1 : (SX.toList == SK.toList) = false := by rw [beq_eq_false_iff_ne]; exact fun e => hS (Stores.toList_inj e)
            have HFn := HN1.out (fun h => hS (HBx.out.2 h))
            have HFn2 : Hid (Found l key (i + 1) A) := HFn
            clear hS HFn HN1 HN2 HF
            go_wp2_with fail
            go_roundw
            case rel => exact ⟨i + 1, A, by omega, rfl, by go_num, HFn2, HB8⟩
            case measure => simp [intOf]; omega
        · have i1 : ¬ (i : Int) < (n : Int) := by omega
          rcases HF.out with ⟨rfl, hno⟩ | ⟨j, hj, rfl, hsp⟩
          · have cC := HCk.out RL key ⟨#[]⟩ false _ a6 c6 wr HM.out.1 (by decide) (HR6.out _ HB.out)
            rw [HCn.out key HK.out (fun e he => by
              obtain ⟨j, hj, rfl⟩ := List.getElem_of_mem he
              exact hno j hj (by omega)), errv0] at cC
            clear hno
            go_wp2_with fail
            refine cC.mono ?_
            rintro e w8 ⟨rfl, b8⟩
            have HB8 : Hid (Below w.heap.size w w8) := bt HBw.out b8
            clear cC b8
            go_wp2_with fail
            go_ret
            exact ⟨rfl, HB8.out⟩
          have i2 : ¬ (j : Int) < 0 := by omega
          have i3 : (0 : Int) ≤ (j : Int) := by omega
          have i4 : (j : Int) < (n : Int) := by omega
          obtain ⟨b0, off0, rfl, _⟩ := (HW.out w (Below.refl _ _)).2.2 (by omega)
          have HP : Hid (∀ w', Below w.heap.size w w' → w'.cell? ⟨b0, off0 + j * 3, none⟩ = some (.string (l[j]).key) ∧ w'.cell? ⟨b0, off0 + j * 3 + 1, none⟩ = some (.string (l[j]).val) ∧ w'.cell? ⟨b0, off0 + j * 3 + 2, none⟩ = some (.bool (l[j]).gone)) := fun w' b => PairRows.at_three (HW.out w' b) j hj
          have HX : Hid (checkE RL (l[j]).key (l[j]).val true (beside (place l) (spot (l[j]).key)) = 0) := (HCp.out _ (List.getElem_mem hj)).2
          have HY : Hid ((l[j]).key = key → placed key value ≠ placed key (l[j]).val → Ways.upL (placed key value) (beside (place l) (spot key)) (turns (spot key)) = RL → Ways.meetsL (placed key value) (placed key (l[j]).val) (beside (place l) (spot key)) (turns (spot key)) = true) := HMe.out _ (List.getElem_mem hj)
          have HS2 : Hid ((l[j]).val.size ≤ 200) := (pairs_all HE.out _ (List.getElem_mem hj)).2.1
          have hil : j < n := by omega
          clear hsp HF HCp HCn HMe
          generalize l[j] = x at HP HX HY HS2
          obtain ⟨x0, x1, x2⟩ := x
          simp only at HP HX HY HS2
          clear hj
          obtain ⟨p0, p1, _⟩ := HP.out _ HBw.out
          by_cases hx : x0 = key
          rotate_left
          · have e1 : (x0.toList == key.toList) = false := by rw [beq_eq_false_iff_ne]; exact fun e => hx (Stores.toList_inj e)
            clear hx
            go_wp2_with fail
            go_ret
            exact ⟨rfl, HBw.out⟩
          subst hx
          have e1 : (x0.toList == x0.toList) = true := by simp
          by_cases h2 : 200 < value.size
          · have i5 : (200 : Int) < (value.size : Int) := by omega
            clear h2
            go_wp2_with fail
            go_ret
            exact ⟨rfl, HBw.out⟩
          have i5 : ¬ (200 : Int) < (value.size : Int) := by omega
          have cC := HCk.out RL x0 value true _ a6 c6 wr HM.out.1 HM.out.2 (HR6.out _ HB.out)
          by_cases hv2 : value = x1
          · subst hv2
            have e2 : (value.toList == value.toList) = true := by simp
            rw [HX.out, errv0] at cC
            clear h2
            go_wp2_with fail
            refine cC.mono ?_
            rintro e w8 ⟨rfl, b8⟩
            have HB8 : Hid (Below w.heap.size w w8) := bt HBw.out b8
            obtain ⟨_, p1, _⟩ := HP.out _ HB8.out
            clear cC b8
            go_wp2_with fail
            go_ret
            exact ⟨rfl, HB8.out⟩
          have e2 : (value.toList == x1.toList) = false := by rw [beq_eq_false_iff_ne]; exact fun e => hv2 (Stores.toList_inj e)
          rw [HCo3.out (by omega)] at cC
          by_cases hU : Ways.upL (placed x0 value) (beside (place l) (spot x0)) (turns (spot x0)) = RL
          rotate_left
          · rw [if_neg hU, errv_pos 8 (by decide)] at cC
            clear hU h2 hv2
            go_wp2_with fail
            refine cC.mono ?_
            rintro e w8 ⟨rfl, b8⟩
            have HB8 : Hid (Below w.heap.size w w8) := bt HBw.out b8
            obtain ⟨_, p1, _⟩ := HP.out _ HB8.out
            clear cC b8
            go_wp2_with fail
            go_quiet (fail)
            go_wp2_with fail
            go_ret
            exact ⟨rfl, below_drewN HB8.out _⟩
          rw [if_pos hU, errv0] at cC
          have HSx : Hid (x0.size ≤ 200) := by have := key_yes HK.out; show _ ≤ _; omega
          have HU : Hid (Ways.upL (placed x0 value) (beside (place l) (spot x0)) (turns (spot x0)) = RL) := hU
          have HV2 : Hid (value.size ≤ 200) := by show _ ≤ _; omega
          clear hU h2 hv2
          go_wp2_with fail
          refine cC.mono ?_
          rintro e w8 ⟨rfl, b8⟩
          have HB8 : Hid (Below w.heap.size w w8) := bt HBw.out b8
          have HR8 : Hid (∀ w', Below w8.heap.size w8 w' → Row w' a6 8 c6 (ints (beside (place l) (spot x0)))) := fun w' b => HR6.out w' (bt (bt HB.out b8) b)
          obtain ⟨_, p1, _⟩ := HP.out _ HB8.out
          clear cC b8
          have HLf : Hid (∀ v : ByteArray, v.size ≤ 200 → ∀ w', Calls Try.prog 13 #[.string (x0 ++ ⟨#[0]⟩ ++ v)] w' fun e w'' => e = .returned (.int .i64 (placed x0 v)) ∧ Below w'.heap.size w' w'') := fun v hv w' => by
            have h := WalkSum.leaf_any (x0 ++ ⟨#[0]⟩ ++ v) w' (by
              have := HSx.out
              rw [ByteArray.size_append, ByteArray.size_append]
              show x0.size + 1 + v.size ≤ maxLen
              unfold maxLen
              omega)
            rw [placed_data] at h
            exact h.mono (by rintro e w'' ⟨rfl, rfl⟩; exact ⟨rfl, Below.refl _ _⟩)
          have HCl : Hid (∀ w', Below w8.heap.size w8 w' → Calls Try.prog 12 #[.int .i64 (placed x0 value), .int .i64 (placed x0 x1), .string SK, .slice a6 8 c6] w' fun e w'' => e = .returned (.bool true) ∧ Below w'.heap.size w' w'') := fun w' b => by
            by_cases q : placed x0 value = placed x0 x1
            · rw [q]
              exact WalkKeyClash.clash_same _ _ _ w'
            · rw [HBk.out]
              exact WalkKeyClash.clash_meets _ _ _ _ a6 c6 w' (HR8.out w' b) HPv.out (placed_valid _ _) (placed_valid _ _) q (HY.out trivial q HU.out)
          have c1 : ∀ dd os, Calls Try.prog 13 #[.string (x0 ++ ⟨#[0]⟩ ++ value)] (grow (redrawn w8 dd) os) fun e w'' => e = .returned (.int .i64 (placed x0 value)) ∧ ∃ p : Regrown, w'' = grow (redrawn w8 p.d) p.os := fun dd os => Calls.regrown_of (HLf.out value HV2.out _)
          have c2 : ∀ dd os, Calls Try.prog 13 #[.string (x0 ++ ⟨#[0]⟩ ++ x1)] (grow (redrawn w8 dd) os) fun e w'' => e = .returned (.int .i64 (placed x0 x1)) ∧ ∃ p : Regrown, w'' = grow (redrawn w8 p.d) p.os := fun dd os => Calls.regrown_of (HLf.out x1 HS2.out _)
          have c3' : ∀ dd os, Calls Try.prog 12 #[.int .i64 (placed x0 value), .int .i64 (placed x0 x1), .string SK, .slice a6 8 c6] (grow (redrawn w8 dd) os) fun e w'' => e = .returned (.bool true) ∧ ∃ p : Regrown, w'' = grow (redrawn w8 p.d) p.os := fun dd os => Calls.regrown_of (HCl.out _ (below_regrown w8 dd os))
          generalize placed x0 value = PA at c1 c3'
          generalize placed x0 x1 = PB at c2 c3'
          have n1 : ¬ 9223372036854775807 < x0.size + 1 := by have := HSx.out; omega
          have n2 : ¬ 9223372036854775807 < x0.size + 1 + value.size := by have := HSx.out; have := HV2.out; omega
          have n3 : ¬ 9223372036854775807 < x0.size + 1 + x1.size := by have := HSx.out; have := HS2.out; omega
          have p1' := cell_regrown p1
          go_upto_region 37 with fail
          clear p0 p1
          refine wp_region_quiet_below (by kernel_rfl) (by kernel_rfl) ?_
          repeat (quiet_step (fail))
          quiet_step (exact c1 _ _)
          repeat (quiet_step (fail))
          quiet_step (exact c2 _ _)
          repeat (quiet_step (fail))
          quiet_step (exact c3' _ _)
          repeat (quiet_step (fail))
          refine wpQuiet_nil ?_
          intro _ hw'
          obtain ⟨⟨dq, osq⟩, hw''⟩ := hw'
          subst hw''
          have HB9 : Hid (Below w.heap.size w (grow (redrawn w8 dq) osq)) := bt HB8.out (below_regrown w8 dq osq)
          generalize grow (redrawn w8 dq) osq = w9 at HB9 ⊢
          clear c1 c2 c3' p1'
          go_wp2_with fail
          go_ret
          exact ⟨rfl, HB9.out⟩

end Go.Proofs.Ytekahahaknamfai.WalkKeysProve
