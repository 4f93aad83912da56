/-
  The walk of EntryBack: entries are read as they were, one, or many, and any bytes; and each has its leaf.
-/
import Derived.Test.YtibmgmadoaencadWalkEnt
import Derived.Test.YtibmgmadoaencadWalkEntsSame
import Derived.Test.YtibmgmadoaencadWalkSum
import Derived.Deep.CutBlock
import Derived.BigQuiet
import Derived.Deep.QuietTactic
namespace Go.Proofs.Ytibmgmadoaencad.WalkEntryBack
open Go.RowKit
open Lists (Row ints bt)
open Keeps (Kept owns_kept owns_row owns_base)
open Wides (Wide owns_wide)
open EntRows (cells)
open Errs (errv errv0 errv_pos)
open Entries (Entry entE entsE encV decE decV packV leafsV leafsOf unpackE unpackV unpack pack)
open WalkEntsSame (aggE sizeE below_drewN beq_yes)
open Nums (str)

theorem fact_ok : entE ((258 : Int), (⟨#[104, 105]⟩ : ByteArray)) = 0 := by decide +kernel
theorem fact_is : str (encV ((258 : Int), (⟨#[104, 105]⟩ : ByteArray))) = ⟨#[0, 1, 2, 2, 104, 105]⟩ := by
  unfold encV
  rw [if_pos fact_ok]
  rfl
theorem enc_back {e : Entry} (h : entE e = 0) : decE (str (encV e)).data.toList = 0 ∧ decV (str (encV e)).data.toList = e := by
  rw [Nums.str_data]
  unfold encV
  rw [if_pos h]
  exact Entries.dec_is (Entries.dec_bytes h)
theorem enc_small {e : Entry} (h : entE e = 0) : (str (encV e)).size ≤ 300 := by
  rw [Nums.str_size]
  unfold encV
  rw [if_pos h, Entries.bytes_length]
  have := (Entries.ent_ok h).2.2
  omega
theorem pack_back {l : List Entry} (h : entsE l = 0) : unpackE (str (packV l)).data.toList = 0 ∧ unpackV (str (packV l)).data.toList = l := by
  obtain ⟨h1, h2⟩ := Entries.ents_ok h
  rw [Nums.str_data]
  unfold packV
  rw [if_pos h]
  exact Entries.unpack_is (Entries.unpack_pack h1 h2)
theorem pack_small {l : List Entry} (h : entsE l = 0) : (str (packV l)).size ≤ 41000 := by
  obtain ⟨h1, h2⟩ := Entries.ents_ok h
  rw [Nums.str_size]
  unfold packV
  rw [if_pos h, pack, List.length_cons]
  have := Entries.all_length l h2
  omega
theorem unpack_back {s : ByteArray} (h : unpackE s.data.toList = 0) : entsE (unpackV s.data.toList) = 0 ∧ str (packV (unpackV s.data.toList)) = s := by
  cases hu : unpack s.data.toList with
  | none => rw [(Entries.unpack_not hu).1] at h; cases h
  | some l =>
    obtain ⟨p1, p2, p3⟩ := Entries.pack_unpack hu
    have e := Entries.ents_of p2 p3
    rw [(Entries.unpack_is hu).2]
    refine ⟨e, ?_⟩
    unfold packV
    rw [if_pos e, p1]
    rfl
theorem leaf_at {l : List Entry} {k : Nat} (hk : k < l.length) : (ints (leafsOf l))[k]? = some (.int .i64 (Sums.sum (0 :: Entries.bytes l[k]))) := by
  simp [ints, leafsOf, hk]

set_option maxHeartbeats 16000000 in
set_option maxRecDepth 100000 in
theorem walk (t0 : Int) (_ : (Lit.int .i64 t0).wf = true) (d0 : ByteArray) (hd0 : d0.size ≤ maxLen)
    (a : Option Addr) (n cap : Nat) (l : List Entry) (_hz : l.length * 24 ≤ 140737488351232) (hw : ∀ e ∈ l, (Lit.int .i64 e.1).wf = true ∧ e.2.size ≤ maxLen)
    (t : ByteArray) (ht : t.size ≤ 140737488351232) (w : World) (hr : Wide 2 w a n cap (cells l)) :
    Calls Try.prog 3 #[.agg #[.int .i64 t0, .string d0], .slice a n cap, .string t] w fun e w' => e = .returned (.bool true) ∧ Below w.heap.size w w' := by
  have hln := EntRows.len_of hr
  have HZ : Hid (∀ e ∈ l, e.2.size ≤ maxLen) := fun e he => (hw e he).2
  have b0 : Below w.heap.size w (w.alloc (.cells #[.int .i64 t0, .string d0] 23)) := (Below.refl _ _).alloc (Nat.le_refl _) _
  have HB0 : Hid (Below w.heap.size w (w.alloc (.cells #[.int .i64 t0, .string d0] 23))) := b0
  have HR : Hid (Wide 2 (w.alloc (.cells #[.int .i64 t0, .string d0] 23)) a n cap (cells l)) := hr.below b0
  have HC : Hid ((w.alloc (.cells #[.int .i64 t0, .string d0] 23)).cell? ⟨w.heap.size, 0, none⟩ = some (.int .i64 t0) ∧ (w.alloc (.cells #[.int .i64 t0, .string d0] 23)).cell? ⟨w.heap.size, 1, none⟩ = some (.string d0)) := ⟨by simp, by simp⟩
  have HD : Hid (d0.size ≤ maxLen) := hd0
  have HT : Hid (t.size ≤ 140737488351232) := ht
  clear hr _hz hw b0 hd0 ht
  have c0 := fun w1 => WalkEnt.encode_any 258 ⟨#[104, 105]⟩ w1 (by decide)
  rw [fact_ok, fact_is, errv0] at c0
  have a23 := aggE
  have z23 := sizeE
  go_enter Try.func3, Try.ntmps3
  go_upto_region 1 with fail
  generalize w.alloc (.cells #[.int .i64 t0, .string d0] 23) = w0 at HB0 HR HC ⊢
  go_wp2_with fail
  refine (c0 _).mono ?_
  rintro e w1 ⟨rfl, bc⟩
  have k0 := Lists.cell_below bc HC.out.1
  have k1 := Lists.cell_below bc HC.out.2
  clear c0
  go_wp2_with fail
  refine (WalkEnt.encode_any t0 d0 _ HD.out).mono ?_
  rintro e w2 ⟨rfl, b2⟩
  replace bc := bt bc b2
  clear b2
  replace k0 := Lists.cell_below bc HC.out.1
  replace k1 := Lists.cell_below bc HC.out.2
  obtain ⟨X, HX⟩ : ∃ X : ByteArray, Hid (str (encV (t0, d0)) = X) := ⟨_, rfl⟩
  rw [HX.out]
  obtain ⟨B1, HB1⟩ : ∃ B1 : Bool, Hid (decide (entE (t0, d0) = 0) = B1) := ⟨_, rfl⟩
  go_upto_region 5 with fail
  go_cut [10, 34, 36, 38, 40] from 39 to 39 (fun _ _ _ _ v wc => v = .bool B1 ∧ w2 = wc)
  case first => as_aux_lemma =>
    by_cases hE : entE (t0, d0) = 0
    · have HV : Hid (B1 = true) := by rw [← HB1.out]; exact decide_eq_true hE
      rw [hE, errv0]
      clear hE
      go_wp2_with fail
      go_meet
      case rel => exact ⟨by rw [HV.out], rfl⟩
    · have HV : Hid (B1 = false) := by rw [← HB1.out]; exact decide_eq_false hE
      rw [errv_pos _ hE]
      clear hE
      go_wp2_with fail
      go_meet
      case rel => exact ⟨by rw [HV.out], rfl⟩
  obtain ⟨rfl, rfl⟩ := hcut
  go_upto_if 40 with fail
  go_cut [11, 12] from 40 to 52 (fun _ _ wc => Below w0.heap.size w0 wc)
  case first => as_aux_lemma =>
    cases B1
    rotate_left
    · have hE := of_decide_eq_true HB1.out
      obtain ⟨q1, q2⟩ := enc_back hE
      have q3 := enc_small hE
      rw [HX.out] at q1 q2 q3
      have cD := WalkEnt.decode_any X w2 (by omega)
      rw [q1, q2, errv0] at cD
      have e1 := beq_yes d0
      have e2 : (t0 == t0) = true := by simp
      clear hE q1 q2 q3
      go_wp2_with fail
      refine cD.mono ?_
      rintro e w3 ⟨rfl, b3⟩
      have bd := bt bc b3
      simp only
      have HBA : Hid (Below w0.heap.size w0 (w3.alloc (.cells #[.int .i64 t0, .string d0] 23))) := bd.alloc bd.size _
      have m0 : (w3.alloc (.cells #[.int .i64 t0, .string d0] 23)).cell? ⟨w.heap.size, 0, none⟩ = some (.int .i64 t0) := Lists.cell_below HBA.out HC.out.1
      have m1 : (w3.alloc (.cells #[.int .i64 t0, .string d0] 23)).cell? ⟨w.heap.size, 1, none⟩ = some (.string d0) := Lists.cell_below HBA.out HC.out.2
      have n0 : (w3.alloc (.cells #[.int .i64 t0, .string d0] 23)).cell? ⟨w3.heap.size, 0, none⟩ = some (.int .i64 t0) := by simp
      have n1 : (w3.alloc (.cells #[.int .i64 t0, .string d0] 23)).cell? ⟨w3.heap.size, 1, none⟩ = some (.string d0) := by simp
      clear cD bd b3 k0 k1
      go_upto_region 7 with fail
      generalize w3.alloc (.cells #[.int .i64 t0, .string d0] 23) = w4 at HBA m0 m1 n0 n1 ⊢
      go_wp2_with fail
      go_meet
      case rel => exact HBA.out
    · go_wp2_with fail
      go_meet
      case rel => exact bc
  have be : Below w0.heap.size w0 wc := hcut
  clear hcut bc k0 k1
  go_wp2_with fail
  refine (WalkEnt.pack_any l a n cap _ (HR.out.below be) HZ.out).mono ?_
  rintro e w5 ⟨rfl, b5⟩
  replace be := bt be b5
  clear b5
  obtain ⟨Y, HY⟩ : ∃ Y : ByteArray, Hid (str (packV l) = Y) := ⟨_, rfl⟩
  rw [HY.out]
  obtain ⟨B2, HB2⟩ : ∃ B2 : Bool, Hid (decide (entsE l = 0) = B2) := ⟨_, rfl⟩
  go_upto_region 10 with fail
  go_cut [10, 53, 55, 57, 59] from 58 to 58 (fun _ _ _ _ v wc => v = .bool B2 ∧ w5 = wc)
  case first => as_aux_lemma =>
    by_cases hE : entsE l = 0
    · have HV : Hid (B2 = true) := by rw [← HB2.out]; exact decide_eq_true hE
      rw [hE, errv0]
      clear hE
      go_wp2_with fail
      go_meet
      case rel => exact ⟨by rw [HV.out], rfl⟩
    · have HV : Hid (B2 = false) := by rw [← HB2.out]; exact decide_eq_false hE
      rw [errv_pos _ hE]
      clear hE
      go_wp2_with fail
      go_meet
      case rel => exact ⟨by rw [HV.out], rfl⟩
  obtain ⟨rfl, rfl⟩ := hcut
  go_upto_if 59 with fail
  go_cut [13, 14, 15, 16, 17, 18, 19, 20] from 59 to 114 (fun _ _ _ _ _ _ _ _ wc => Below w0.heap.size w0 wc)
  case first => as_aux_lemma =>
    cases B2
    rotate_left
    · have hE := of_decide_eq_true HB2.out
      obtain ⟨hn, hv⟩ := Entries.ents_ok hE
      obtain ⟨q1, q2⟩ := pack_back hE
      have q3 := pack_small hE
      rw [HY.out] at q1 q2 q3
      have cU := WalkEnt.unpack_any Y w5 (by omega)
      rw [q1, q2, errv0, hln] at cU
      have cL := fun w1 (b : Below w0.heap.size w0 w1) => WalkEnt.leafs_any l a n cap w1 (HR.out.below b) HZ.out
      rw [hE, errv0, show leafsV l = leafsOf l from if_pos hE, show (leafsOf l).length = n by simp [leafsOf, hln]] at cL
      have HV : Hid (∀ e ∈ l, entE e = 0) := hv
      have hn2 : n ≤ 200 := by omega
      clear hE q1 q2 q3 hn hv
      go_wp2_with fail
      refine cU.mono ?_
      rintro e w6 ⟨v6, rfl, o6, b6⟩
      obtain ⟨a6, c6, rfl, r6⟩ := owns_wide o6
      replace be := bt be b6
      clear cU o6 b6
      go_wp2_with fail
      refine (WalkEntsSame.entries_same l a6 a n c6 cap _ r6 (HR.out.below be) (by omega)).mono ?_
      rintro e w7 ⟨rfl, b7⟩
      replace be := bt be b7
      clear r6 b7
      go_wp2_with fail
      refine (cL _ be).mono ?_
      rintro e w8 ⟨v8, rfl, o8, b8⟩
      obtain ⟨a8, c8, rfl, r8, _⟩ := owns_row o8
      have HR8 : Hid (Row w8 a8 n c8 (ints (leafsOf l))) := r8
      replace be := bt be b8
      clear cL o8 r8 b8
      go_wp2_with fail
      go_loopw [18, 19, 20] (fun i _ _ wr => ∃ k : Nat, k ≤ n ∧ i = .int .i64 (k : Int) ∧ Below w8.heap.size w8 wr) (fun i _ _ _ => n - (intOf i).toNat)
      case atStart => exact ⟨0, Nat.zero_le _, rfl, Below.refl _ _⟩
      case round =>
        obtain ⟨k, hk, rfl, hb⟩ := hrel
        by_cases hlt : k < n
        · have i1 : (k : Int) < (n : Int) := by omega
          have hw := (HR.out.below be).below hb
          obtain ⟨b1, off1, rfl, _⟩ := hw.2.2 (by omega)
          obtain ⟨p0, p1⟩ := EntRows.at_two hw k (by omega)
          obtain ⟨b3, off3, rfl, hc3⟩ := (HR8.out.below hb).2.2 (by omega)
          have HLf : Hid (wr.cell? ⟨b3, off3 + k, none⟩ = some (.int .i64 (Sums.sum (0 :: Entries.bytes (l[k]'(by omega)))))) := hc3 k _ (leaf_at (by omega))
          have HEk : Hid (entE (l[k]'(by omega)) = 0) := HV.out _ (List.getElem_mem _)
          generalize l[k]'(by omega) = x at p0 p1 HLf HEk
          obtain ⟨tk, dk⟩ := x
          simp only at p0 p1
          have hsz : dk.size ≤ maxLen := by
            have := (Entries.ent_ok HEk.out).2.2
            simp only at this
            unfold maxLen
            omega
          have cE := WalkEnt.encode_any tk dk wr hsz
          rw [HEk.out, errv0] at cE
          have hsm := enc_small HEk.out
          have HLg : Hid (wr.cell? ⟨b3, off3 + k, none⟩ = some (.int .i64 (Sums.sum (0 :: (str (encV (tk, dk))).data.toList)))) := by
            rw [Nums.str_data]
            unfold encV
            rw [if_pos HEk.out]
            exact HLf.out
          generalize str (encV (tk, dk)) = Z at cE hsm HLg
          clear hw hc3 HLf hsz
          go_wp2_with fail
          refine cE.mono ?_
          rintro e w9 ⟨rfl, b9⟩
          have k9 := Lists.cell_below b9 HLg.out
          have hb9 := bt hb b9
          have cF := fun w1 => WalkSum.leaf_any Z w1 (by unfold maxLen; omega)
          have x0 : (Sums.sum (0 :: Z.data.toList) != Sums.sum (0 :: Z.data.toList)) = false := by simp
          generalize Sums.sum (0 :: Z.data.toList) = S at k9 cF x0
          clear cE b9 hb HLg
          go_wp2_with fail
          go_quiet (first | (go_at_call 11; exact Calls.quiet_of_same (cF _)))
          go_wp2_with fail
          go_roundw
          case rel => exact ⟨k + 1, by omega, by go_num, below_drewN hb9 _⟩
          case measure => simp [intOf]; omega
        · have i1 : ¬ (k : Int) < (n : Int) := by omega
          go_wp2_with fail
          go_meet
          case rel => exact bt be hb
    · go_wp2_with fail
      go_meet
      case rel => exact be
  have bf : Below w0.heap.size w0 wc := hcut
  clear hcut be
  go_wp2_with fail
  refine (WalkEnt.unpack_any t _ HT.out).mono ?_
  rintro e w9 ⟨v9, rfl, o9, b9⟩
  replace bf := bt bf b9
  clear b9
  by_cases hU : unpackE t.data.toList = 0
  · rw [hU, errv0]
    obtain ⟨q1, q2⟩ := unpack_back hU
    obtain ⟨a9, c9, rfl, r9⟩ := owns_wide o9
    have hvz : ∀ e ∈ unpackV t.data.toList, e.2.size ≤ maxLen := fun e he => by
      have := (Entries.ent_ok ((Entries.ents_ok q1).2 e he)).2.2
      unfold maxLen
      omega
    have cP := WalkEnt.pack_any _ a9 _ c9 w9 r9 hvz
    rw [q1, q2, errv0] at cP
    have e1 := beq_yes t
    generalize (unpackV t.data.toList).length = m9 at cP
    clear hU q1 q2 o9 r9 hvz
    go_wp2_with fail
    refine cP.mono ?_
    rintro e w10 ⟨rfl, b10⟩
    have HBE : Hid (Below w.heap.size w w10) := bt HB0.out (bt bf b10)
    clear cP b10 bf
    go_wp2_with fail
    go_ret
    exact ⟨rfl, HBE.out⟩
  · rw [errv_pos _ hU]
    have HBE : Hid (Below w.heap.size w w9) := bt HB0.out bf
    clear hU o9 bf
    go_wp2_with fail
    go_ret
    exact ⟨rfl, HBE.out⟩

end Go.Proofs.Ytibmgmadoaencad.WalkEntryBack
