/-
  The walk of TableBack: a table is opened as it was built; any bytes are those of what they tell; with one byte changed they are none, or of other pairs.
-/
import Derived.Test.YtinjkmimaokffaeWalkTab
import Derived.Test.YtinjkmimaokffaeWalkMix
import Derived.Test.YtinjkmimaokffaeWalkPairsEq
import Derived.Test.YtinjkmimaokffaePairBulk
import Derived.Deep.CutBlock
import Derived.Laws.IdiomStrings
namespace Go.Proofs.Ytinjkmimaokffae.WalkTableBack
open Go.RowKit
open Lists (Row ints bt)
open Keeps (Kept owns_kept owns_row owns_base)
open Errs (errv errv0 errv_pos)
open Wides (Wide owns_wide)
open Stores (Pair find)
open PairRows (cells)
open PairBulk (bulk)
open Tabs (pairsE buildV openE openT getP getPE table)
open WalkPairsSame (aggP sizeP)
open Nums (str)

theorem beq_yes (x : ByteArray) : (x.toList == x.toList) = true := beq_self_eq_true _
/-- the law's own pair -/
def p0 : Pair := ⟨⟨#[97]⟩, ⟨#[120]⟩, false⟩
theorem ok0 : pairsE [p0] = 0 := by decide +kernel
theorem build0 : buildV [p0] = table [p0] := if_pos ok0
theorem size0 : (str (buildV [p0])).size = 13 := by
  rw [Nums.str_size, build0, Tabs.table_length]
  rfl
theorem open0 : openT (str (buildV [p0])).data.toList = some [p0] := by rw [Nums.str_data, build0]; exact Tabs.open_table ok0
theorem get0 : getPE [p0] ⟨#[97]⟩ = 0 ∧ getP [p0] ⟨#[97]⟩ = p0 := by decide +kernel
theorem body_bulk : ∀ (l : List Pair), (Tabs.body l).length ≤ bulk l
  | [] => Nat.le_refl _
  | p :: l => by
    have := body_bulk l
    rw [Tabs.body_cons, List.length_append, Tabs.one_length]
    simp only [bulk]
    omega
theorem build_size {l : List Pair} (h : bulk l ≤ 1048576) : (str (buildV l)).size ≤ 2097152 := by
  rw [Nums.str_size]
  unfold buildV
  split
  · rw [Tabs.table_length]
    have := body_bulk l
    omega
  · simp

/-- an error held against none -/
theorem err_eql (E : Nat) (w : World) : (binOp .eql 25 (errv E) .nilIface).run Try.prog w = .ok (.bool (decide (E = 0))) w := by
  by_cases h : E = 0
  · subst h
    rw [errv0]
    rfl
  · rw [errv_pos _ h, decide_eq_false h]
    rfl
theorem err_guard (E : Nat) (x : Operand) (w : World) : (eqGuard .eql 25 x (.const .nilIface) (errv E) .nilIface).run Try.prog w = .ok () w := by
  by_cases h : E = 0
  · subst h
    rw [errv0]
    go_simp
  · rw [errv_pos _ h]
    go_simp

theorem byte_of {t : Int} (h : (Lit.int .u8 t).wf = true) : ∃ T : UInt8, t = (T.toNat : Int) := by
  have h0 : 0 ≤ t ∧ t < 256 := by
    have h1 : IntKind.u8.min = 0 := by decide
    have h2 : IntKind.u8.max = 255 := by decide
    simp [Lit.wf] at h
    omega
  refine ⟨UInt8.ofNat t.toNat, ?_⟩
  rw [UInt8.toNat_ofNat']
  omega
theorem set_ne {X : ByteArray} {j : Nat} {T : UInt8} (hj : j < X.size) (h : ¬ ((X[j].toNat : Int) = (T.toNat : Int))) : X.data.toList.set j T ≠ X.data.toList := by
  intro e
  apply h
  have h2 := congrArg (fun l => l[j]?) e
  have hl : j < X.data.toList.length := by rw [Array.length_toList]; exact hj
  simp only [List.getElem?_set_self hl] at h2
  rw [List.getElem?_eq_getElem hl] at h2
  have h3 : T = X.data.toList[j] := by simpa using h2
  rw [h3]
  rfl
theorem row_cell (w : World) (X : ByteArray) (c i : Nat) (hi : i < X.size) : (w.drew.alloc (.cells (bytesRow X c) 5 ((bytesRow X c).size, (bytesRow X c).size + 1))).cell? ⟨w.heap.size, i, none⟩ = some (.int .u8 ((X[i]'hi).toNat : Int)) := by
  exact (cell_of_row _ w.drew.heap.size _ (bytesRow X c) 5 ((bytesRow X c).size, (bytesRow X c).size + 1) (heap_alloc_new w.drew _)).trans (bytesRow_at X c i hi)
theorem row_frozen (w : World) (X : ByteArray) (c i : Nat) (hi : i < X.size) : (w.drew.alloc (.cells (bytesRow X c) 5 ((bytesRow X c).size, (bytesRow X c).size + 1))).frozen? ⟨w.heap.size, i, none⟩ = false := by
  have h := heap_alloc_new w.drew (.cells (bytesRow X c) 5 ((bytesRow X c).size, (bytesRow X c).size + 1))
  have hs : X.size ≤ (bytesRow X c).size := by unfold bytesRow; simp
  unfold World.frozen?
  rw [show (⟨w.heap.size, i, none⟩ : Addr).block = w.drew.heap.size from rfl, h]
  simp
  intro h1
  omega
theorem back_of (w : World) (g : Nat) (X : ByteArray) (c j : Nat) (T : UInt8) (hj : j < X.size) (h : ∀ (i : Nat) (hi : i < X.size), w.cell? ⟨g, i, none⟩ = some (.int .u8 ((X[i]'hi).toNat : Int))) :
    (convert 49 9 (.slice (some ⟨g, 0, none⟩) X.size c)).run Try.prog (w.setCell ⟨g, j, none⟩ (.int .u8 (T.toNat : Int))) = .ok (.string (str (X.data.toList.set j T))) (w.setCell ⟨g, j, none⟩ (.int .u8 (T.toNat : Int))) := by
  have hl : (X.data.toList.set j T).length = X.size := by rw [List.length_set, Array.length_toList]; rfl
  have k := run_convert_bytes_back (P := Try.prog) (w.setCell ⟨g, j, none⟩ (.int .u8 (T.toNat : Int))) 49 9 5 ⟨g, 0, none⟩ c (X.data.toList.set j T) Try.underlying49 Try.underlying5 Try.underlying9 (fun i hi => by
    have hi' : i < X.size := by rw [← hl]; exact hi
    rw [show (⟨g, 0, none⟩ : Addr).add i = ⟨g, i, none⟩ by (unfold Addr.add; split <;> simp_all)]
    by_cases e : i = j
    · subst e
      rw [List.getElem_set_self]
      exact World.cell?_setCell_same' _ _ _ (by rw [h i hi']; rfl)
    · rw [List.getElem_set_ne (fun q => e q.symm), World.cell?_setCell_other _ _ _ _ (fun q => e (by simpa using q.symm))]
      exact h i hi')
  rw [hl] at k
  exact k

set_option maxHeartbeats 16000000 in
set_option maxRecDepth 100000 in
theorem walk (a : Option Addr) (n cap : Nat) (l : List Pair) (hz : bulk l ≤ 1048576) (hw : ∀ e ∈ l, e.key.size ≤ maxLen ∧ e.val.size ≤ maxLen)
    (s : ByteArray) (hs : s.size ≤ 1048576) (at' : Int) (_ : (Lit.int .i64 at').wf = true) (tb : Int) (htb : (Lit.int .u8 tb).wf = true) (w : World) (hr : Wide 3 w a n cap (cells l)) :
    Calls Try.prog 5 #[.slice a n cap, .string s, .int .i64 at', .int .u8 tb] w fun e w' => e = .returned (.bool true) ∧ Below w.heap.size w w' := by
  have hln := PairRows.len_of hr
  have HW : Hid (∀ e ∈ l, e.key.size ≤ maxLen ∧ e.val.size ≤ maxLen) := hw
  have HN : Hid (n ≤ 1048576) := by show n ≤ 1048576; have := PairBulk.bulk_len l; omega
  have HBk : Hid ((str (buildV l)).size ≤ 2097152) := build_size hz
  have HR : Hid (∀ w1, Below w.heap.size w w1 → Wide 3 w1 a n cap (cells l)) := fun w1 b => hr.below b
  have HS : Hid (s.size ≤ 1048576) := hs
  have HTo : Hid ((Lit.int .u8 tb).wf = true) := htb
  clear hr hz hw hs htb hln
  have a23 := aggP
  have z23 := sizeP
  have HB0 : Hid (Below w.heap.size w (w.alloc (.cells #[.string ⟨#[97]⟩, .string ⟨#[120]⟩, .bool false] 37))) := (Below.refl _ _).alloc (Nat.le_refl _) _
  have HR0 : Hid (Wide 3 (w.alloc (.cells #[.string ⟨#[97]⟩, .string ⟨#[120]⟩, .bool false] 37)) (some ⟨w.heap.size, 0, none⟩) 1 1 (cells [p0])) := ⟨rfl, Nat.le_refl _, fun _ => ⟨_, _, rfl, fun j u hj => by
    match j, hj with
    | 0, hj => simp [cells, p0] at hj; subst hj; simp
    | 1, hj => simp [cells, p0] at hj; subst hj; simp
    | 2, hj => simp [cells, p0] at hj; subst hj; simp⟩⟩
  go_enter Try.func5, Try.ntmps5
  go_wp2_with fail
  generalize w.alloc (.cells #[.string ⟨#[97]⟩, .string ⟨#[120]⟩, .bool false] 37) = w0 at HB0 HR0 ⊢
  refine (WalkTab.build_any [p0] _ 1 1 _ HR0.out (fun e he => by rw [List.mem_singleton.1 he]; decide) (by omega)).mono ?_
  rintro e w1 ⟨rfl, b1⟩
  rw [ok0, errv0]
  have z0 := size0
  have HO0 : Hid (openT (str (buildV [p0])).data.toList = some [p0]) := open0
  generalize str (buildV [p0]) = X0 at z0 HO0
  have bd : Below w.heap.size w w1 := bt HB0.out b1
  clear HB0 HR0 b1
  have z0' : ((X0.size : Int) != 13) = false := by rw [z0]; rfl
  go_wp2_with fail
  refine (WalkTab.open_any X0 _ (by omega)).mono ?_
  rintro e w2 ⟨t, rfl, ht, b2⟩
  obtain ⟨b, rfl, _, htb⟩ := ht [p0] HO0.out
  rw [(Tabs.open_is HO0.out).1, errv0]
  replace bd := bt bd b2
  clear HO0 ht b2 z0' z0
  go_wp2_with fail
  refine (WalkTab.get_any [p0] b ⟨#[97]⟩ _ htb).mono ?_
  rintro e w3 ⟨rfl, b3⟩
  rw [get0.1, get0.2, errv0]
  replace bd := bt bd b3
  replace bd := bd.alloc bd.size (.cells #[.string p0.key, .string p0.val, .bool p0.gone] 37)
  have k1 : (w3.alloc (.cells #[.string p0.key, .string p0.val, .bool p0.gone] 37)).cell? ⟨w3.heap.size, 1, none⟩ = some (.string ⟨#[120]⟩) := by simp [p0]
  clear b3 htb
  go_upto_region 8 with fail
  generalize w3.alloc (.cells #[.string p0.key, .string p0.val, .bool p0.gone] 37) = w4 at bd k1 ⊢
  have q1 : (((⟨#[120]⟩ : ByteArray).toList) != [120]) = false := by decide +kernel
  go_wp2_with fail
  refine (WalkTab.build_any l a n cap _ (HR.out _ bd) HW.out HN.out).mono ?_
  rintro e w5 ⟨rfl, b5⟩
  replace bd := bt bd b5
  clear b5 k1 q1
  obtain ⟨E, HE⟩ : ∃ E : Nat, Hid (pairsE l = E) := ⟨_, rfl⟩
  rw [HE.out]
  have g1 := err_eql E
  have g2 := err_guard E
  obtain ⟨B, HB⟩ : ∃ B, Hid (decide (E = 0) = B) := ⟨_, rfl⟩
  rw [HB.out] at g1
  obtain ⟨X, HX⟩ : ∃ X, Hid (str (buildV l) = X) := ⟨_, rfl⟩
  rw [HX.out] at HBk ⊢
  go_upto_if 61 with fail
  go_cut [15, 16, 17, 18, 19, 20] from 60 to 108 (fun _ _ _ _ _ _ wc => Below w.heap.size w wc)
  case first => as_aux_lemma =>
    cases B
    · go_wp2_with fail
      go_meet
      case rel => exact bd
    · have h0' : pairsE l = 0 := by rw [HE.out]; exact of_decide_eq_true HB.out
      have HV : Hid (buildV l = table l) := if_pos h0'
      have HT : Hid (table l = X.data.toList) := by show _ = _; rw [← HX.out, Nums.str_data, HV.out]
      have HO : Hid (openT X.data.toList = some l) := by show _ = _; rw [← HT.out]; exact Tabs.open_table h0'
      clear h0' HV g1 g2 HX HE HB
      go_wp2_with fail
      refine (WalkTab.open_any X _ HBk.out).mono ?_
      rintro e w6 ⟨t, rfl, ht, b6⟩
      obtain ⟨c, rfl, _, htb⟩ := ht l HO.out
      rw [(Tabs.open_is HO.out).1, errv0]
      replace bd := bt bd b6
      clear ht b6
      go_wp2_with fail
      refine (WalkTab.all_any l c _ htb).mono ?_
      rintro e w7 ⟨v, rfl, o7, b7⟩
      replace bd := bt bd b7
      obtain ⟨a7, c7, rfl, r7⟩ := owns_wide o7
      go_wp2_with fail
      refine (WalkPairsEq.pairs_eq l l a7 a l.length n c7 cap _ r7 (HR.out _ bd) (by have := PairRows.len_of (HR.out _ bd); have := HN.out; omega)).mono ?_
      rintro e w8 ⟨rfl, b8⟩
      rw [decide_eq_true rfl]
      replace bd := bt bd b8
      clear b8 b7 o7 r7 htb
      by_cases h1 : 0 ≤ at'
      · by_cases h2 : at' < (X.size : Int)
        · obtain ⟨j, rfl⟩ := Int.eq_ofNat_of_zero_le h1
          have hj : j < X.size := by omega
          by_cases h3 : ((X[j].toNat : Int) != tb) = true
          · obtain ⟨T, hT⟩ : ∃ T : UInt8, tb = (T.toNat : Int) := byte_of HTo.out
            subst hT
            have HNe : Hid (X.data.toList.set j T ≠ X.data.toList) := set_ne hj (by simpa using h3)
            obtain ⟨cp, HC⟩ : ∃ cp, Hid (grownCap w8 X.size 0 5 = cp) := ⟨_, rfl⟩
            have kb := run_bytes_of_string (P := Try.prog) w8 9 49 5 X Try.underlying9 Try.underlying49 Try.underlying5
            rw [HC.out] at kb
            clear HC
            have bw : Below w.heap.size w (w8.drew.alloc (.cells (bytesRow X cp) 5 ((bytesRow X cp).size, (bytesRow X cp).size + 1))) := bd.drew.alloc bd.size _
            have HC1 : Hid (∀ (i : Nat) (hi : i < X.size), (w8.drew.alloc (.cells (bytesRow X cp) 5 ((bytesRow X cp).size, (bytesRow X cp).size + 1))).cell? ⟨w8.heap.size, i, none⟩ = some (.int .u8 ((X[i]'hi).toNat : Int))) := fun i hi => row_cell w8 X cp i hi
            have f1 : (w8.drew.alloc (.cells (bytesRow X cp) 5 ((bytesRow X cp).size, (bytesRow X cp).size + 1))).frozen? ⟨w8.heap.size, j, none⟩ = false := row_frozen w8 X cp j hj
            generalize w8.drew.alloc (.cells (bytesRow X cp) 5 ((bytesRow X cp).size, (bytesRow X cp).size + 1)) = w9 at kb bw HC1 f1
            have c1 := HC1.out j hj
            have kc : (convert 49 9 (.slice (some ⟨w8.heap.size, 0, none⟩) X.size cp)).run Try.prog (w9.setCell ⟨w8.heap.size, j, none⟩ (.int .u8 (T.toNat : Int))) = .ok (.string (str (X.data.toList.set j T))) (w9.setCell ⟨w8.heap.size, j, none⟩ (.int .u8 (T.toNat : Int))) := back_of w9 w8.heap.size X cp j T hj HC1.out
            have h8 : w.heap.size ≤ w8.heap.size := bd.size
            have HSz : Hid ((str (X.data.toList.set j T)).size ≤ 2097152) := by
              show _ ≤ _
              rw [Nums.str_size, List.length_set]
              have h5 : X.data.toList.length = X.size := Array.length_toList
              have h6 := HBk.out
              omega
            have bx : Below w.heap.size w (w9.setCell ⟨w8.heap.size, j, none⟩ (.int .u8 (T.toNat : Int))) := bw.setCell h8 _
            have HOp : Hid (openT (str (X.data.toList.set j T)).data.toList ≠ some l) := fun e => HNe.out (by rw [Nums.str_data] at e; rw [← (Tabs.table_open e).2]; exact HT.out)
            clear bd bw HC1 HBk HTo HNe
            generalize hY : str (X.data.toList.set j T) = Y at kc HSz HOp
            clear hY
            go_wp2_with fail
            refine (WalkTab.open_any Y _ HSz.out).mono ?_
            rintro e w10 ⟨t, rfl, ht, b10⟩
            have by1 := bt bx b10
            cases hO : openT Y.data.toList with
            | none =>
              rw [(Tabs.open_not hO).1, errv_pos 2 (by decide)]
              clear hO ht b10 kb kc f1 c1 h3 bx
              go_wp2_with fail
              go_meet
              case rel => exact by1
            | some m =>
              obtain ⟨c', rfl, _, htb⟩ := ht m hO
              have hne : m ≠ l := fun e => HOp.out (by rw [← e]; exact hO)
              rw [(Tabs.open_is hO).1, errv0]
              have hml : m.length ≤ 17592186043904 := by
                have h4 := Tabs.open_len hO
                have h5 : Y.data.toList.length = Y.size := Array.length_toList
                have h6 := HSz.out
                omega
              clear hO ht b10 kb kc f1 c1 h3 bx
              go_wp2_with fail
              refine (WalkTab.all_any m c' _ htb).mono ?_
              rintro e w11 ⟨v, rfl, o11, b11⟩
              obtain ⟨a11, c11, rfl, r11⟩ := owns_wide o11
              have by2 := bt by1 b11
              go_wp2_with fail
              refine (WalkPairsEq.pairs_eq m l a11 a m.length n c11 cap _ r11 (HR.out _ by2) hml).mono ?_
              rintro e w12 ⟨rfl, b12⟩
              rw [decide_eq_false hne]
              have by3 := bt by2 b12
              clear b12 by2 by1 b11 o11 r11 htb hml hne
              go_wp2_with fail
              go_meet
              case rel => exact by3
          · have h4 : ((X[j].toNat : Int) != tb) = false := by simpa using h3
            clear h3
            go_wp2_with fail
            go_meet
            case rel => exact bd
        · go_wp2_with fail
          go_meet
          case rel => exact bd
      · go_wp2_with fail
        go_meet
        case rel => exact bd
  clear bd g1 g2 HE HB HX HTo HBk HR HW
  go_wp2_with fail
  refine (WalkTab.open_any s _ (by have := HS.out; omega)).mono ?_
  rintro e w9 ⟨t, rfl, ht, b9⟩
  have bd := bt hcut b9
  cases hO : openT s.data.toList with
  | none =>
    rw [(Tabs.open_not hO).1, errv_pos 2 (by decide)]
    clear hO ht hcut b9
    go_wp2_with fail
    go_ret
    exact ⟨rfl, bd⟩
  | some m =>
    obtain ⟨c, rfl, _, htb⟩ := ht m hO
    rw [(Tabs.open_is hO).1, errv0]
    obtain ⟨m0, m1⟩ := Tabs.table_open hO
    have hml : m.length ≤ 1048576 := by
      have h3 := Tabs.open_len hO
      have h4 : s.data.toList.length = s.size := Array.length_toList
      have h5 := HS.out
      omega
    have HM : Hid (pairsE m = 0) := m0
    have HT : Hid (str (buildV m) = s) := by
      show _ = _
      rw [show buildV m = table m from if_pos m0, m1]
      rfl
    clear hO ht hcut b9 m0 m1
    go_wp2_with fail
    refine (WalkTab.all_any m c _ htb).mono ?_
    rintro e w10 ⟨v, rfl, o10, b10⟩
    obtain ⟨a10, c10, rfl, r10⟩ := owns_wide o10
    go_wp2_with fail
    refine (WalkTab.build_any m a10 m.length c10 _ r10 (fun e he => by have := (Tabs.pairs_ok HM.out).1 e he; unfold maxLen; omega) hml).mono ?_
    rintro e w11 ⟨rfl, b11⟩
    rw [HM.out, HT.out, errv0]
    have e1 := beq_yes s
    have HB : Hid (Below w.heap.size w w11) := bt bd (bt b10 b11)
    clear bd b10 b11 o10 r10 htb hml HT
    go_wp2_with fail
    go_ret
    exact ⟨rfl, HB.out⟩

end Go.Proofs.Ytinjkmimaokffae.WalkTableBack
