/-
  The walk of TableTells: any pairs as bytes, and any bytes as pairs; which pair a key has, the first, and the last, are the document's.
-/
import Derived.Test.YtinjkmimaokffaeDoorWalkTab
import Derived.Test.YtinjkmimaokffaeDoorWalkOpenRef
import Derived.Test.YtinjkmimaokffaeDoorWalkStoreRef
import Derived.Test.YtinjkmimaokffaeDoorWalkPairsSame
import Derived.Test.YtinjkmimaokffaeDoorWalkTold
import Derived.Test.YtinjkmimaokffaeDoorPairBulk
import Derived.Deep.CutBlock
import Derived.Laws.StructEq
namespace Go.Proofs.YtinjkmimaokffaeDoor.WalkTableTells
open Go.RowKit
open Lists (Row ints bt)
open Keeps (Kept owns_kept owns_row owns_base)
open WalkTold (Laid)
open Errs (errv errv0 errv_pos)
open Wides (Wide owns_wide)
open Stores (Pair find)
open PairRows (cells)
open Tabs (pairsE buildV openE openT getP getPE firstK lastK)
open WalkStoreRef (aggP sizeP FindAt)
open Nums (str)

theorem error_same (e : Nat) (w : World) (hg : Laid w) : Calls Tryd.prog 9 #[errv e, .int .i64 (e : Int)] w fun r w' => r = .returned (.bool true) ∧ Below w.heap.size w w' := by
  have h := WalkTold.error_is e (e : Int) w hg
  rw [beq_self_eq_true] at h
  exact h
theorem beq_yes (x : ByteArray) : (x.toList == x.toList) = true := beq_self_eq_true _
theorem bne_no (x : ByteArray) : (x.toList != x.toList) = false := by rw [bne, beq_self_eq_true]; rfl
/-- a pair is itself -/
theorem pair_eql (k v : ByteArray) (g : Bool) (w : World) : (binOp .eql 36 (.agg #[.string k, .string v, .bool g]) (.agg #[.string k, .string v, .bool g])).run Tryd.prog w = .ok (.bool true) w := by
  have hf : Tryd.prog.underlying 36 = some (.struct (Tryd.prog.fieldsOf 36)) := by kernel_rfl
  have hp : Tryd.prog.stoodInHeld 36 = false := by kernel_rfl
  rw [run_eql_struct, run_equalIn_agg w 9999 _ _ _ hf hp]
  simp only [Program.fieldsOf, Tryd.underlying36]
  rw [show (9999 : Nat) = 9998 + 1 from rfl]
  generalize (9998 : Nat) = d
  have h1 : (Op.equalIn (d + 1) 9 (.string k) (.string k)).run Tryd.prog w = .ok true w := by rw [run_equalIn_string w d _ k k Tryd.underlying9, beq_yes]
  have h2 : (Op.equalIn (d + 1) 9 (.string v) (.string v)).run Tryd.prog w = .ok true w := by rw [run_equalIn_string w d _ v v Tryd.underlying9, beq_yes]
  have h3 : (Op.equalIn (d + 1) 4 (.bool g) (.bool g)).run Tryd.prog w = .ok true w := by rw [run_equalIn_bool' w d _ g g Tryd.underlying4, beq_self_eq_true]
  have p1 : (part 9 #[.string k, .string v, .bool g] 0).run Tryd.prog w = .ok (.string k) w := by simp [part]
  have p2 : (part 9 #[.string k, .string v, .bool g] 1).run Tryd.prog w = .ok (.string v) w := by simp [part]
  have p3 : (part 4 #[.string k, .string v, .bool g] 2).run Tryd.prog w = .ok (.bool g) w := by simp [part]
  simp [Op.eqFields, p1, p2, p3, h1, h2, h3]
/-- a new variable for a pair -/
theorem new_row (w : World) (x y : ByteArray) (g : Bool) : (w.alloc (.cells #[.string x, .string y, .bool g] 36)).rowIs w.heap.size 36 3 (fun j => if j = 0 then .string x else if j = 1 then .string y else .bool g) := World.rowIs_alloc _ _ _ _ (fun j hj => by match j, hj with | 0, _ | 1, _ | 2, _ => rfl | j + 3, h => simp at h; omega)
theorem find_not {m : List Pair} {k : ByteArray} {z : Int} (h : FindAt m k z) (hz : ¬ 0 ≤ z) : getPE m k = 5 ∧ getP m k = ⟨⟨#[]⟩, ⟨#[]⟩, false⟩ := by
  rcases h with ⟨h, _⟩ | ⟨j, _, rfl, _⟩
  · unfold getPE getP
    rw [h]
    exact ⟨rfl, rfl⟩
  · omega
theorem find_is {m : List Pair} {k : ByteArray} {z : Int} (h : FindAt m k z) (hz : 0 ≤ z) : ∃ (j : Nat) (hj : j < m.length), z = j ∧ getPE m k = 0 ∧ getP m k = m[j] := by
  rcases h with ⟨_, rfl⟩ | ⟨j, hj, rfl, h⟩
  · omega
  · refine ⟨j, hj, rfl, ?_⟩
    unfold getPE getP
    rw [h]
    exact ⟨rfl, rfl⟩
theorem first_of {m : List Pair} (h : 0 < m.length) : firstK m = (m[0]'h).key := by
  cases m with
  | nil => exact absurd h (by simp)
  | cons p m => rfl
theorem last_of {m : List Pair} (h : m.length - 1 < m.length) : lastK m = (m[m.length - 1]'h).key := by
  unfold lastK
  rw [List.getLast?_eq_getElem?, List.getElem?_eq_getElem h]
  rfl
theorem first_nil : firstK [] = ⟨#[]⟩ := rfl
theorem last_nil : lastK [] = ⟨#[]⟩ := rfl

set_option maxHeartbeats 16000000 in
set_option maxRecDepth 100000 in
theorem walk (a : Option Addr) (n cap : Nat) (l : List Pair) (hz : PairBulk.bulk l ≤ 1048576) (hw : ∀ e ∈ l, e.key.size ≤ maxLen ∧ e.val.size ≤ maxLen)
    (s : ByteArray) (hs : s.size ≤ 1048576) (key : ByteArray) (_ : key.size ≤ 1048576) (w : World) (hr : Wide 3 w a n cap (cells l)) (hL : Laid w) :
    Calls Tryd.prog 5 #[.slice a n cap, .string s, .string key] w fun e w' => e = .returned (.bool true) ∧ Below w.heap.size w w' := by
  have hln := PairRows.len_of hr
  have HW : Hid (∀ e ∈ l, e.key.size ≤ maxLen ∧ e.val.size ≤ maxLen) := hw
  have HN : Hid (n ≤ 1048576) := by show n ≤ 1048576; have := PairBulk.bulk_len l; omega
  have HR : Hid (∀ w1, Below w.heap.size w w1 → Wide 3 w1 a n cap (cells l)) := fun w1 b => hr.below b
  have HS : Hid (s.size ≤ 1048576) := hs
  have cErr := fun (e : Nat) (w1 : World) (b : Below w.heap.size w w1) => error_same e w1 (hL.below b)
  have HErr : Hid (∀ (e : Nat) (w1 : World), Below w.heap.size w w1 → Calls Tryd.prog 9 #[errv e, .int .i64 (e : Int)] w1 fun r w' => r = .returned (.bool true) ∧ Below w1.heap.size w1 w') := cErr
  have c1 := WalkTabRef.pairs_any l a n cap w hr hw (by have := HN.out; omega)
  clear hr hL hz hw hs cErr hln
  have a23 := aggP
  have z23 := sizeP
  go_enter Tryd.func5, Tryd.ntmps5
  go_wp2_with fail
  refine c1.mono ?_
  rintro e w1 ⟨rfl, bc⟩
  clear c1
  obtain ⟨E, HE⟩ : ∃ E : Nat, Hid (pairsE l = E) := ⟨_, rfl⟩
  rw [HE.out]
  go_upto_if 26 with fail
  go_cut [8] from 25 to 28 (fun v wc => v = .string (str (buildV l)) ∧ Below w.heap.size w wc)
  case first => as_aux_lemma =>
    by_cases h0 : E = 0
    · have hd : (((E : Nat) : Int) == 0) = true := by rw [h0]; rfl
      have h0' : pairsE l = 0 := by rw [HE.out]; exact h0
      have HV : Hid (buildV l = Tabs.table l) := if_pos h0'
      clear h0
      go_wp2_with fail
      refine (WalkTableRef.table_any l a n cap _ (HR.out _ bc) h0' HN.out).mono ?_
      rintro e w4 ⟨rfl, b4⟩
      go_wp2_with fail
      go_meet
      case rel => exact ⟨by rw [HV.out], bt bc b4⟩
    · have hd : (((E : Nat) : Int) == 0) = false := by rw [beq_eq_false_iff_ne]; omega
      have HV : Hid (buildV l = []) := if_neg (by rw [HE.out]; exact h0)
      clear h0
      go_wp2_with fail
      go_meet
      case rel => exact ⟨by rw [HV.out]; rfl, bc⟩
  obtain ⟨rfl, bd⟩ := hcut
  clear bc
  go_wp2_with fail
  refine (WalkTab.build_any l a n cap _ (HR.out _ bd) HW.out HN.out).mono ?_
  rintro e w2 ⟨rfl, b2⟩
  replace bd := bt bd b2
  rw [HE.out]
  clear b2 HR HW
  have e1 := beq_yes (str (buildV l))
  have e2 := bne_no (str (buildV l))
  generalize str (buildV l) = X1 at e1 e2
  go_wp2_with fail
  refine (HErr.out _ _ bd).mono ?_
  rintro e w3 ⟨rfl, b3⟩
  replace bd := bt bd b3
  clear b3 HE
  -- bytes as pairs
  go_wp2_with fail
  refine (WalkOpenRef.open_any s _ HS.out).mono ?_
  rintro e w4 ⟨v, rfl, hv, b4⟩
  have HV : Hid (∀ m, openT s.data.toList = some m → w4.ownsRow w3.heap.size 36 3 v m.length (cells m)) := hv
  replace bd := bt bd b4
  clear hv b4
  obtain ⟨B1, HB1⟩ : ∃ B1 : Bool, Hid ((openT s.data.toList).isSome = B1) := ⟨_, rfl⟩
  rw [HB1.out]
  go_upto_if 43 with fail
  go_cut [7] from 42 to 43 (fun e wc => e = .int .i64 (openE s.data.toList : Nat) ∧ wc = w4)
  case first => as_aux_lemma =>
    cases B1
    · have HV : Hid (openE s.data.toList = 2) := by show (if _ then _ else _) = _; rw [HB1.out]; rfl
      go_wp2_with fail
      go_meet
      case rel => exact ⟨by rw [HV.out]; rfl, rfl⟩
    · have HV : Hid (openE s.data.toList = 0) := by show (if _ then _ else _) = _; rw [HB1.out]; rfl
      go_wp2_with fail
      go_meet
      case rel => exact ⟨by rw [HV.out]; rfl, rfl⟩
  obtain ⟨rfl, rfl⟩ := hcut
  go_wp2_with fail
  refine (WalkTab.open_any s _ (by have := HS.out; omega)).mono ?_
  rintro e w5 ⟨t, rfl, ht, b5⟩
  go_wp2_with fail
  refine (HErr.out _ _ (bt bd b5)).mono ?_
  rintro e w6 ⟨rfl, b6⟩
  have HB6 : Hid (Below w.heap.size w w6) := bt bd (bt b5 b6)
  cases hO : openT s.data.toList with
  | none =>
    have h2 := (Tabs.open_not hO).1
    rw [h2]
    clear ht HV hO h2 b5 b6 bd HB1
    go_wp2_with fail
    go_ret
    exact ⟨rfl, HB6.out⟩
  | some m =>
    have h2 := (Tabs.open_is hO).1
    rw [h2]
    obtain ⟨b, rfl, hb, htb⟩ := ht m hO
    have hml : m.length ≤ 1048576 := by
      have h3 := Tabs.open_len hO
      have h4 : s.data.toList.length = s.size := Array.length_toList
      have h5 := HS.out
      omega
    have HTb : Hid (WalkTab.Tb w6 b m) := htb.below b6
    obtain ⟨a4, c4, rfl, r4⟩ := owns_wide (HV.out m hO)
    have HR6 : Hid (Wide 3 w6 a4 m.length c4 (cells m)) := r4.below (bt b5 b6)
    clear ht HV hO h2 b5 b6 bd HB1 htb r4 hb
    go_wp2_with fail
    refine (WalkStoreRef.find_any m key a4 m.length c4 _ HR6.out (by omega)).mono ?_
    rintro e w7 ⟨z, rfl, hz, b7⟩
    have HF : Hid (FindAt m key z) := hz
    have HB7 : Hid (Below w.heap.size w w7) := bt HB6.out b7
    have HTb7 : Hid (WalkTab.Tb w7 b m) := HTb.out.below b7
    have HR7 : Hid (Wide 3 w7 a4 m.length c4 (cells m)) := HR6.out.below b7
    clear hz b7 HB6 HTb HR6
    have HRo : Hid ((w7.alloc (.cells #[.string ⟨#[]⟩, .string ⟨#[]⟩, .bool false] 36)).rowIs w7.heap.size 36 3 (fun j => if j = 0 then .string ⟨#[]⟩ else if j = 1 then .string ⟨#[]⟩ else .bool false)) := new_row w7 _ _ _
    have HB8 : Hid (Below w7.heap.size w7 (w7.alloc (.cells #[.string ⟨#[]⟩, .string ⟨#[]⟩, .bool false] 36))) := (Below.refl _ _).alloc (Nat.le_refl _) _
    go_upto_if 80 with fail
    generalize w7.alloc (.cells #[.string ⟨#[]⟩, .string ⟨#[]⟩, .bool false] 36) = w8 at HRo HB8 ⊢
    go_cut [7] from 79 to 84 (fun e wc => e = .int .i64 (getPE m key : Nat) ∧ wc.rowIs w7.heap.size 36 3 (fun j => if j = 0 then .string (getP m key).key else if j = 1 then .string (getP m key).val else .bool (getP m key).gone) ∧ Below w7.heap.size w7 wc)
    case first => as_aux_lemma =>
      by_cases hz : 0 ≤ z
      · obtain ⟨j, hj, rfl, g1, g2⟩ := find_is HF.out hz
        have HG : Hid (getPE m key = 0 ∧ getP m key = m[j]) := ⟨g1, g2⟩
        obtain ⟨b4, off4, rfl, _⟩ := (HR7.out.below HB8.out).2.2 (by omega)
        obtain ⟨p0, p1, p2⟩ := PairRows.at_three (HR7.out.below HB8.out) j hj
        generalize m[j] = P at p0 p1 p2 HG
        obtain ⟨pk, pv, pg⟩ := P
        simp only at p0 p1 p2
        have j1 : (j : Int) < (m.length : Int) := by omega
        have r0 := HRo.out.cell (i := 0) (by omega)
        have r1 := HRo.out.cell (i := 1) (by omega)
        have r2 := HRo.out.cell (i := 2) (by omega)
        have f0 := HRo.out.frozen 0
        have f1 := HRo.out.frozen 1
        have f2 := HRo.out.frozen 2
        clear g1 g2
        go_wp2_with fail
        go_meet
        case rel => exact ⟨by rw [HG.out.1]; rfl, by rw [HG.out.2]; exact (((HRo.out.set 0 _).set 1 _).set 2 _).congr (fun j hj => by match j, hj with | 0, _ | 1, _ | 2, _ => rfl | j + 3, h => omega), ((HB8.out.setCell (Nat.le_refl _) _).setCell (Nat.le_refl _) _).setCell (Nat.le_refl _) _⟩
      · have HG : Hid (getPE m key = 5 ∧ getP m key = ⟨⟨#[]⟩, ⟨#[]⟩, false⟩) := find_not HF.out hz
        go_wp2_with fail
        go_meet
        case rel => exact ⟨by rw [HG.out.1]; rfl, by rw [HG.out.2]; exact HRo.out, HB8.out⟩
    obtain ⟨rfl, hro, be⟩ := hcut
    clear HRo HB8 HF
    obtain ⟨P, HP⟩ : ∃ P, Hid (getP m key = P) := ⟨_, rfl⟩
    obtain ⟨E5, HE5⟩ : ∃ E5, Hid (getPE m key = E5) := ⟨_, rfl⟩
    rw [HP.out] at hro
    rw [HE5.out]
    go_wp2_with fail
    refine (WalkTab.get_any m b key _ (HTb7.out.below be)).mono ?_
    rintro e w9 ⟨rfl, b9⟩
    rw [HP.out, HE5.out]
    obtain ⟨pk, pv, pg⟩ := P
    simp only at hro ⊢
    replace hro := hro.of_block (b9.block _ hro.lt)
    replace be := bt be b9
    have hrn : (w9.alloc (.cells #[.string pk, .string pv, .bool pg] 36)).rowIs w9.heap.size 36 3 (fun j => if j = 0 then .string pk else if j = 1 then .string pv else .bool pg) := new_row w9 _ _ _
    replace hro := hro.alloc (.cells #[.string pk, .string pv, .bool pg] 36)
    replace be := be.alloc be.size (.cells #[.string pk, .string pv, .bool pg] 36)
    clear b9 HP HE5
    go_wp2_with fail
    generalize w9.alloc (.cells #[.string pk, .string pv, .bool pg] 36) = w10 at hro hrn be ⊢
    refine (HErr.out _ _ (bt HB7.out be)).mono ?_
    rintro e w11 ⟨rfl, b11⟩
    have HRo : Hid (w11.rowIs w7.heap.size 36 3 (fun j => if j = 0 then .string pk else if j = 1 then .string pv else .bool pg)) := hro.of_block (b11.block _ hro.lt)
    have HRn : Hid (w11.rowIs w9.heap.size 36 3 (fun j => if j = 0 then .string pk else if j = 1 then .string pv else .bool pg)) := hrn.of_block (b11.block _ hrn.lt)
    have HB11 : Hid (Below w.heap.size w w11) := bt HB7.out (bt be b11)
    have HR11 : Hid (Wide 3 w11 a4 m.length c4 (cells m)) := HR7.out.below (bt be b11)
    have HTb11 : Hid (WalkTab.Tb w11 b m) := HTb7.out.below (bt be b11)
    clear hro hrn be b11 HErr HR7 HTb7 HB7
    go_upto_if 96 with fail
    go_cut [20, 21] from 94 to 107 (fun x y wc => x = .string (firstK m) ∧ y = .string (lastK m) ∧ wc = w11)
    case first => as_aux_lemma =>
      by_cases h0 : 0 < m.length
      · obtain ⟨b4, off4, rfl, _⟩ := HR11.out.2.2 h0
        have p0 := (PairRows.at_three HR11.out 0 h0).1
        have q0 := (PairRows.at_three HR11.out (m.length - 1) (by omega)).1
        rw [← first_of h0, Nat.zero_mul, Nat.add_zero] at p0
        rw [← last_of (by omega)] at q0
        obtain ⟨F1, HF1⟩ : ∃ F1, Hid (firstK m = F1) := ⟨_, rfl⟩
        obtain ⟨F2, HF2⟩ : ∃ F2, Hid (lastK m = F2) := ⟨_, rfl⟩
        rw [HF1.out] at p0
        rw [HF2.out] at q0
        obtain ⟨x, m, rfl⟩ : ∃ x y, m = x :: y := by cases m with | nil => exact absurd h0 (by simp) | cons x y => exact ⟨x, y, rfl⟩
        rw [List.length_cons] at q0 ⊢
        rw [show m.length + 1 - 1 = m.length by omega] at q0
        have hmx : m.length + 1 ≤ 1048576 := hml
        have j0 : (0 : Int) < (m.length : Int) + 1 := by omega
        have j1 : (m.length : Int) ≤ 1048576 := by omega
        have j2 : (0 : Int) ≤ (m.length : Int) := by omega
        clear h0 hml hmx
        go_wp2_with fail
        go_meet
        case rel => exact ⟨by rw [HF1.out], by rw [HF2.out], rfl⟩
      · have hm : m = [] := List.length_eq_zero_iff.1 (by omega)
        subst hm
        clear h0
        go_wp2_with fail
        go_meet
        case rel => exact ⟨rfl, rfl, rfl⟩
    obtain ⟨rfl, rfl, rfl⟩ := hcut
    have e3 := beq_yes (firstK m)
    have e4 := beq_yes (lastK m)
    obtain ⟨F1, HF1⟩ : ∃ F1, Hid (firstK m = F1) := ⟨_, rfl⟩
    obtain ⟨F2, HF2⟩ : ∃ F2, Hid (lastK m = F2) := ⟨_, rfl⟩
    rw [HF1.out] at e3
    rw [HF2.out] at e4
    rw [HF1.out, HF2.out]
    go_wp2_with fail
    refine (WalkTab.all_any m b _ HTb11.out).mono ?_
    rintro e w12 ⟨v, rfl, o12, b12⟩
    obtain ⟨a5, c5, rfl, r5⟩ := owns_wide o12
    go_wp2_with fail
    refine (WalkPairsSame.pairs_same m a5 a4 m.length c5 c4 _ r5 (HR11.out.below b12) (by omega)).mono ?_
    rintro e w13 ⟨rfl, b13⟩
    have HB13 : Hid (Below w.heap.size w w13) := bt HB11.out (bt b12 b13)
    have HTb13 : Hid (WalkTab.Tb w13 b m) := HTb11.out.below (bt b12 b13)
    have hro := HRo.out.of_block ((bt b12 b13).block _ HRo.out.lt)
    have hrn := HRn.out.of_block ((bt b12 b13).block _ HRn.out.lt)
    have r0 : w13.cell? ⟨w7.heap.size, 0, none⟩ = some (.string pk) := hro.cell (i := 0) (by omega)
    have r1 : w13.cell? ⟨w7.heap.size, 1, none⟩ = some (.string pv) := hro.cell (i := 1) (by omega)
    have r2 : w13.cell? ⟨w7.heap.size, 2, none⟩ = some (.bool pg) := hro.cell (i := 2) (by omega)
    have s0 : w13.cell? ⟨w9.heap.size, 0, none⟩ = some (.string pk) := hrn.cell (i := 0) (by omega)
    have s1 : w13.cell? ⟨w9.heap.size, 1, none⟩ = some (.string pv) := hrn.cell (i := 1) (by omega)
    have s2 : w13.cell? ⟨w9.heap.size, 2, none⟩ = some (.bool pg) := hrn.cell (i := 2) (by omega)
    have qq := pair_eql pk pv pg
    clear hro hrn HRo HRn HB11 HTb11 HR11 o12 r5 b12 b13 e1 e2 hml HN HS
    go_wp2_with fail
    refine (WalkTab.first_any m b _ HTb13.out).mono ?_
    rintro e w14 ⟨rfl, b14⟩
    rw [HF1.out]
    have HB14 : Hid (Below w.heap.size w w14) := bt HB13.out b14
    have HTb14 : Hid (WalkTab.Tb w14 b m) := HTb13.out.below b14
    clear b14 HB13 HTb13 r0 r1 r2 s0 s1 s2 qq
    go_wp2_with fail
    refine (WalkTab.last_any m b _ HTb14.out).mono ?_
    rintro e w15 ⟨rfl, b15⟩
    rw [HF2.out]
    have HB15 : Hid (Below w.heap.size w w15) := bt HB14.out b15
    clear b15 HB14 HTb14
    go_wp2_with fail
    go_ret
    exact ⟨rfl, HB15.out⟩

end Go.Proofs.YtinjkmimaokffaeDoor.WalkTableTells
