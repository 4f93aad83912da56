/-
  The walk of EntryTells: what is wrong with any entry, any as bytes, any bytes as one; many together, and their leafs, are the document's.
-/
import Derived.Test.YtibmgmadoaencadDoorWalkEnt
import Derived.Test.YtibmgmadoaencadDoorWalkUnpackRef
import Derived.Test.YtibmgmadoaencadDoorWalkEntsSame
import Derived.Test.YtibmgmadoaencadDoorWalkInts
import Derived.Test.YtibmgmadoaencadDoorWalkTold
import Derived.Deep.CutBlock
namespace Go.Proofs.YtibmgmadoaencadDoor.WalkEntryTells
open Go.RowKit
open Lists (Row ints bt)
open Keeps (Kept owns_kept owns_row owns_base)
open WalkTold (Laid)
open Errs (errv errv0 errv_pos)
open Wides (Wide owns_wide)
open EntRows (cells)
open Entries (Entry entE entsE encV decE decV dec packV leafsV unpackE unpackV unpack)
open WalkEntryRef (aggE sizeE)
open Nums (str)

theorem error_same (e : Nat) (w : World) (hg : Laid w) : Calls Tryd.prog 8 #[errv e, .int .i64 (e : Int)] w fun r w' => r = .returned (.bool true) ∧ Below w.heap.size w w' := by
  have h := WalkTold.error_is e (e : Int) w hg
  rw [beq_self_eq_true] at h
  exact h
theorem beq_yes (x : ByteArray) : (x.toList == x.toList) = true := beq_self_eq_true _

/-- the document's own reading, in one -/
theorem decode_both (s : ByteArray) (w : World) (hs : s.size ≤ 140737488351232) :
    Calls Tryd.prog 13 #[.string s] w fun e w' => e = .returned (.tuple #[.agg #[.int .i64 (decV s.data.toList).1, .string (decV s.data.toList).2], .bool (dec s.data.toList).isSome]) ∧ Below w.heap.size w w' := by
  cases h : dec s.data.toList with
  | none =>
    rw [(Entries.dec_not h).2]
    exact WalkEntriesRef.decode_no s w hs h
  | some x =>
    rw [(Entries.dec_is h).2]
    exact WalkEntriesRef.decode_yes s w hs x h
theorem decE_of (s : List UInt8) : decE s = if (dec s).isSome = true then 0 else 2 := rfl
/-- a new variable for an entry -/
theorem new_row (w : World) (x : Int) (y : ByteArray) : (w.alloc (.cells #[.int .i64 x, .string y] 33)).rowIs w.heap.size 33 2 (fun j => if j = 0 then .int .i64 x else .string y) := World.rowIs_alloc _ _ _ _ (fun j hj => by match j, hj with | 0, _ | 1, _ => rfl | j + 2, h => simp at h; omega)
/-- all that stands ahead -/
def ahead (l : List Entry) : List UInt8 := if entsE l = 0 then [UInt8.ofNat l.length] else []
def sofar (l : List Entry) (k : Nat) : List UInt8 := if entsE l = 0 then UInt8.ofNat l.length :: Entries.all (l.take k) else []
theorem sofar_zero (l : List Entry) : sofar l 0 = ahead l := by
  unfold sofar ahead
  split <;> rfl
theorem sofar_all (l : List Entry) (k : Nat) (h : l.length ≤ k) : sofar l k = packV l := by
  unfold sofar packV Entries.pack
  rw [List.take_of_length_le h]
theorem sofar_no {l : List Entry} (h : entsE l ≠ 0) (k : Nat) : sofar l k = packV l := by
  unfold sofar packV
  rw [if_neg h, if_neg h]
theorem sofar_next {l : List Entry} (h : entsE l = 0) (k : Nat) (hk : k < l.length) : sofar l (k + 1) = sofar l k ++ Entries.bytes l[k] := by
  unfold sofar
  rw [if_pos h, if_pos h, List.take_succ_eq_append_getElem hk, Entries.all_snoc]
  rfl
theorem sofar_len {l : List Entry} (h : entsE l = 0) (k : Nat) : (sofar l k).length ≤ 41000 := by
  obtain ⟨h1, h2⟩ := Entries.ents_ok h
  unfold sofar
  rw [if_pos h, List.length_cons]
  have := Entries.all_length (l.take k) fun e he => h2 e (List.mem_of_mem_take he)
  rw [List.length_take] at this
  omega

set_option maxHeartbeats 16000000 in
set_option maxRecDepth 100000 in
theorem walk (t0 : Int) (_ : (Lit.int .i64 t0).wf = true) (d0 : ByteArray) (hd0 : d0.size ≤ maxLen) (s : ByteArray) (hs : s.size ≤ 140737488351232)
    (a : Option Addr) (n cap : Nat) (l : List Entry) (hz : l.length * 24 ≤ 140737488351232) (hw : ∀ e ∈ l, (Lit.int .i64 e.1).wf = true ∧ e.2.size ≤ maxLen)
    (t : ByteArray) (ht : t.size ≤ 140737488351232) (w : World) (hr : Wide 2 w a n cap (cells l)) (hL : Laid w) :
    Calls Tryd.prog 4 #[.agg #[.int .i64 t0, .string d0], .string s, .slice a n cap, .string t] w fun e w' => e = .returned (.bool true) ∧ Below w.heap.size w w' := by
  have hln := EntRows.len_of hr
  have HZ : Hid (∀ e ∈ l, e.2.size ≤ maxLen) := fun e he => (hw e he).2
  have HN : Hid (n * 24 ≤ 140737488351232) := by show n * 24 ≤ 140737488351232; rw [← hln]; exact hz
  have b0 : Below w.heap.size w (w.alloc (.cells #[.int .i64 t0, .string d0] 33)) := (Below.refl _ _).alloc (Nat.le_refl _) _
  have HB0 : Hid (Below w.heap.size w (w.alloc (.cells #[.int .i64 t0, .string d0] 33))) := b0
  have HR : Hid (Wide 2 (w.alloc (.cells #[.int .i64 t0, .string d0] 33)) a n cap (cells l)) := hr.below b0
  have HL : Hid (Laid (w.alloc (.cells #[.int .i64 t0, .string d0] 33))) := hL.below b0
  have HC : Hid ((w.alloc (.cells #[.int .i64 t0, .string d0] 33)).cell? ⟨w.heap.size, 0, none⟩ = some (.int .i64 t0) ∧ (w.alloc (.cells #[.int .i64 t0, .string d0] 33)).cell? ⟨w.heap.size, 1, none⟩ = some (.string d0)) := ⟨by simp, by simp⟩
  have HD : Hid (d0.size ≤ maxLen) := hd0
  have HS : Hid (s.size ≤ 140737488351232) := hs
  have HT : Hid (t.size ≤ 140737488351232) := ht
  clear hr hL hz hw b0 hd0 hs ht
  have a23 := aggE
  have z23 := sizeE
  go_enter Tryd.func4, Tryd.ntmps4
  go_upto_region 1 with fail
  generalize w.alloc (.cells #[.int .i64 t0, .string d0] 33) = w0 at HB0 HR HL HC ⊢
  have cErr := fun (e : Nat) (w1 : World) (b : Below w0.heap.size w0 w1) => error_same e w1 (HL.out.below b)
  have k0 := HC.out.1
  have k1 := HC.out.2
  go_wp2_with fail
  refine (WalkEntryRef.entry_any t0 d0 _ HD.out).mono ?_
  rintro e w1 ⟨rfl, bc⟩
  replace k0 := Lists.cell_below bc HC.out.1
  replace k1 := Lists.cell_below bc HC.out.2
  go_wp2_with fail
  refine (WalkEnt.check_any t0 d0 _ HD.out).mono ?_
  rintro e w2 ⟨rfl, b2⟩
  replace bc := bt bc b2
  clear b2
  go_wp2_with fail
  refine (cErr _ _ bc).mono ?_
  rintro e w3 ⟨rfl, b3⟩
  replace bc := bt bc b3
  clear b3
  replace k0 := Lists.cell_below bc HC.out.1
  replace k1 := Lists.cell_below bc HC.out.2
  -- one as bytes
  obtain ⟨E, HE⟩ : ∃ E : Nat, Hid (entE (t0, d0) = E) := ⟨_, rfl⟩
  rw [HE.out]
  go_upto_if 39 with fail
  go_cut [11] from 38 to 41 (fun v wc => v = .string (str (encV (t0, d0))) ∧ Below w0.heap.size w0 wc)
  case first => as_aux_lemma =>
    by_cases h0 : E = 0
    · have hd : (((E : Nat) : Int) == 0) = true := by rw [h0]; rfl
      have h0' : entE (t0, d0) = 0 := by rw [HE.out]; exact h0
      have HV : Hid (encV (t0, d0) = Entries.bytes (t0, d0)) := if_pos h0'
      clear h0
      go_wp2_with fail
      refine (WalkEntryRef.bytes_any t0 d0 _ h0').mono ?_
      rintro e w4 ⟨rfl, b4⟩
      go_wp2_with fail
      go_meet
      case rel => exact ⟨by rw [HV.out], bt bc b4⟩
    · have hd : (((E : Nat) : Int) == 0) = false := by rw [beq_eq_false_iff_ne]; omega
      have HV : Hid (encV (t0, d0) = []) := if_neg (by rw [HE.out]; exact h0)
      clear h0
      go_wp2_with fail
      go_meet
      case rel => exact ⟨by rw [HV.out]; rfl, bc⟩
  obtain ⟨rfl, bd⟩ := hcut
  clear bc
  replace k0 := Lists.cell_below bd HC.out.1
  replace k1 := Lists.cell_below bd HC.out.2
  go_wp2_with fail
  refine (WalkEnt.encode_any t0 d0 _ HD.out).mono ?_
  rintro e w5 ⟨rfl, b5⟩
  replace bd := bt bd b5
  rw [HE.out]
  clear b5 k0 k1
  have e1 := beq_yes (str (encV (t0, d0)))
  generalize str (encV (t0, d0)) = X1 at e1
  go_wp2_with fail
  refine (cErr _ _ bd).mono ?_
  rintro e w6 ⟨rfl, b6⟩
  replace bd := bt bd b6
  clear b6 HE
  -- bytes as one
  go_wp2_with fail
  refine (decode_both s _ HS.out).mono ?_
  rintro e w7 ⟨rfl, b7⟩
  replace bd := bt bd b7
  clear b7
  obtain ⟨B1, HB1⟩ : ∃ B1 : Bool, Hid ((dec s.data.toList).isSome = B1) := ⟨_, rfl⟩
  rw [HB1.out]
  obtain ⟨x1, HX1⟩ : ∃ x1 : Entry, Hid (decV s.data.toList = x1) := ⟨_, rfl⟩
  rw [HX1.out]
  obtain ⟨y1, y2⟩ := x1
  simp only
  have HY : Hid (B1 = false → y1 = 0 ∧ y2 = ⟨#[]⟩) := fun h => by
    have h1 := HB1.out
    rw [h] at h1
    have h2 : dec s.data.toList = none := by simpa using h1
    have h3 := (Entries.dec_not h2).2
    rw [HX1.out] at h3
    simp only [Prod.mk.injEq] at h3
    exact h3
  have HRo : Hid ((w7.alloc (.cells #[.int .i64 y1, .string y2] 33)).rowIs w7.heap.size 33 2 (fun j => if j = 0 then .int .i64 y1 else .string y2)) := new_row w7 y1 y2
  have HB8 : Hid (Below w0.heap.size w0 (w7.alloc (.cells #[.int .i64 y1, .string y2] 33))) := bd.alloc bd.size _
  have h7 : w0.heap.size ≤ w7.heap.size := bd.size
  clear bd
  go_upto_if 56 with fail
  generalize w7.alloc (.cells #[.int .i64 y1, .string y2] 33) = w8 at HRo HB8 ⊢
  go_cut [9] from 55 to 57 (fun e wc => e = .int .i64 (decE s.data.toList : Nat) ∧ wc.rowIs w7.heap.size 33 2 (fun j => if j = 0 then .int .i64 y1 else .string y2) ∧ Below w0.heap.size w0 wc)
  case first => as_aux_lemma =>
    cases B1
    · obtain ⟨rfl, rfl⟩ := HY.out rfl
      have HV : Hid (decE s.data.toList = 2) := by show _ = _; rw [decE_of, HB1.out]; rfl
      have r0 := HRo.out.cell (i := 0) (by omega)
      have r1 := HRo.out.cell (i := 1) (by omega)
      have f0 := HRo.out.frozen 0
      have f1 := HRo.out.frozen 1
      go_wp2_with fail
      go_meet
      case rel => exact ⟨by rw [HV.out]; rfl, ((HRo.out.set 0 _).set 1 _).congr (fun j hj => by match j, hj with | 0, _ | 1, _ => rfl | j + 2, h => omega), (HB8.out.setCell h7 _).setCell h7 _⟩
    · have HV : Hid (decE s.data.toList = 0) := by show _ = _; rw [decE_of, HB1.out]; rfl
      go_wp2_with fail
      go_meet
      case rel => exact ⟨by rw [HV.out]; rfl, HRo.out, HB8.out⟩
  obtain ⟨rfl, hro, be⟩ := hcut
  clear HRo HB8
  go_wp2_with fail
  refine (WalkEnt.decode_any s _ HS.out).mono ?_
  rintro e w9 ⟨rfl, b9⟩
  replace hro := hro.of_block (b9.block _ hro.lt)
  replace be := bt be b9
  clear b9
  rw [HX1.out]
  simp only
  have hrn : (w9.alloc (.cells #[.int .i64 y1, .string y2] 33)).rowIs w9.heap.size 33 2 (fun j => if j = 0 then .int .i64 y1 else .string y2) := new_row w9 y1 y2
  replace hro := hro.alloc (.cells #[.int .i64 y1, .string y2] 33)
  replace be := be.alloc be.size (.cells #[.int .i64 y1, .string y2] 33)
  go_wp2_with fail
  generalize w9.alloc (.cells #[.int .i64 y1, .string y2] 33) = w10 at hro hrn be ⊢
  refine (cErr _ _ be).mono ?_
  rintro e w11 ⟨rfl, b11⟩
  replace hro := hro.of_block (b11.block _ hro.lt)
  replace hrn := hrn.of_block (b11.block _ hrn.lt)
  replace be := bt be b11
  clear b11 HB1 HX1 HY
  -- many together
  go_wp2_with fail
  refine (WalkEntriesRef.entries_any l a n cap _ (HR.out.below be) HZ.out).mono ?_
  rintro e w12 ⟨rfl, b12⟩
  replace hro := hro.of_block (b12.block _ hro.lt)
  replace hrn := hrn.of_block (b12.block _ hrn.lt)
  replace be := bt be b12
  clear b12
  obtain ⟨F, HF⟩ : ∃ F : Nat, Hid (entsE l = F) := ⟨_, rfl⟩
  rw [HF.out]
  go_upto_if 69 with fail
  go_cut [19, 20] from 68 to 76 (fun v u wc => v = .string (str (ahead l)) ∧ wc.ownsRow w12.heap.size 3 1 u (leafsV l).length (ints (leafsV l)) ∧ Below w12.heap.size w12 wc)
  case first => as_aux_lemma =>
    by_cases h0 : F = 0
    · have hd : (((F : Nat) : Int) == 0) = true := by rw [h0]; rfl
      have h0' : entsE l = 0 := HF.out.trans h0
      have hn : n ≤ 200 := by rw [← hln]; exact (Entries.ents_ok h0').1
      have HV : Hid (ahead l = [UInt8.ofNat n] ∧ leafsV l = Entries.leafsOf l) := ⟨by unfold ahead; rw [if_pos h0', hln], if_pos h0'⟩
      have o1 : (w12.alloc (.cells #[.int .u8 (n : Int)] 5)).ownsRow w12.heap.size 5 1 (.slice (some ⟨w12.heap.size, 0, none⟩) 1 1) 1 (WalkMix.cells [UInt8.ofNat n]) := by
        have e : WalkMix.cells [UInt8.ofNat n] = [.int .u8 (n : Int)] := by
          simp only [WalkMix.cells, List.map_cons, List.map_nil, UInt8.toNat_ofNat', List.cons.injEq, Value.int.injEq, true_and, and_true]
          omega
        rw [e]
        exact ⟨rfl, .inr ⟨w12.heap.size, 1, #[.int .u8 (n : Int)], rfl, Nat.le_refl _, heap_alloc_new w12 _, Nat.le_refl _, by decide, rfl, rfl⟩⟩
      obtain ⟨g, cp, hg, kc⟩ := WalkMix.ownsRow_cells (l := [UInt8.ofNat n]) 1 o1 rfl (by omega)
      obtain ⟨rfl, rfl⟩ : w12.heap.size = g ∧ 1 = cp := by simpa using hg
      have bA : Below w12.heap.size w12 (w12.alloc (.cells #[.int .u8 (n : Int)] 5)) := (Below.refl _ _).alloc (Nat.le_refl _) _
      have HBA : Hid (Below w12.heap.size w12 (w12.alloc (.cells #[.int .u8 (n : Int)] 5))) := bA
      have i1 : (n : Int) ≤ 200 := by omega
      have HRA : Hid (Wide 2 (w12.alloc (.cells #[.int .u8 (n : Int)] 5)) a n cap (cells l)) := (HR.out.below be).below bA
      clear h0 o1 hg bA
      go_wp2_with fail
      refine (WalkUnpackRef.leafs_any l a n cap _ HRA.out h0').mono ?_
      rintro e w13 ⟨v13, rfl, o13, b13⟩
      go_wp2_with fail
      go_meet
      case rel => exact ⟨by rw [HV.out.1], by rw [HV.out.2]; exact owns_base o13 HBA.out.size, bt HBA.out b13⟩
    · have hd : (((F : Nat) : Int) == 0) = false := by rw [beq_eq_false_iff_ne]; omega
      have h0' : entsE l ≠ 0 := by rw [HF.out]; exact h0
      have HV : Hid (ahead l = [] ∧ leafsV l = []) := ⟨if_neg h0', if_neg h0'⟩
      clear h0 h0'
      go_wp2_with fail
      go_meet
      case rel => exact ⟨by rw [HV.out.1]; rfl, by rw [HV.out.2]; exact World.ownsRow_nil _ _ _ _, Below.refl _ _⟩
  obtain ⟨rfl, hol, bf⟩ := hcut
  replace hro := hro.of_block (bf.block _ hro.lt)
  replace hrn := hrn.of_block (bf.block _ hrn.lt)
  replace be := bt be bf
  obtain ⟨a5, c5, rfl, r5, _⟩ := owns_row hol
  have HR5 : Hid (Row wc a5 (leafsV l).length c5 (ints (leafsV l))) := r5
  clear hol r5 bf
  go_upto_block 0 with fail
  go_cut [19, 21, 22] from 77 to 94 (fun v _ _ wx => v = .string (str (packV l)) ∧ Below wc.heap.size wc wx)
  case first => as_aux_lemma =>
    rw [← sofar_zero l]
    go_wp2_with fail
    go_loopw [19, 21, 22] (fun v i _ wr => ∃ k : Nat, k ≤ n ∧ i = .int .i64 (k : Int) ∧ v = .string (str (sofar l k)) ∧ Below wc.heap.size wc wr) (fun _ i _ _ => n - (intOf i).toNat)
    case atStart => exact ⟨0, Nat.zero_le _, rfl, rfl, Below.refl _ _⟩
    case round =>
      obtain ⟨k, hk, rfl, rfl, hb⟩ := hrel
      have hkm : (k : Int) ≤ 5864062014806 := by have := HN.out; omega
      by_cases h0 : F = 0
      · have hd : (((F : Nat) : Int) == 0) = true := by rw [h0]; rfl
        have h0' : entsE l = 0 := HF.out.trans h0
        by_cases hlt : k < n
        · have i1 : (k : Int) < (n : Int) := by omega
          have hw := (HR.out.below be).below hb
          obtain ⟨b1, off1, rfl, _⟩ := hw.2.2 (by omega)
          obtain ⟨p0, p1⟩ := EntRows.at_two hw k (by omega)
          have HX : Hid (sofar l (k + 1) = sofar l k ++ Entries.bytes (l[k]'(by omega))) := sofar_next h0' k (by omega)
          have HEk : Hid (entE (l[k]'(by omega)) = 0) := (Entries.ents_ok h0').2 _ (List.getElem_mem _)
          have hsl := sofar_len h0' k
          generalize l[k]'(by omega) = x at p0 p1 HX HEk
          obtain ⟨tk, dk⟩ := x
          simp only at p0 p1
          have z1 : (str (sofar l k)).size ≤ 41000 := by rw [Nums.str_size]; exact hsl
          clear h0 hw
          go_wp2_with fail
          refine (WalkEntryRef.bytes_any tk dk _ HEk.out).mono ?_
          rintro e w14 ⟨rfl, b14⟩
          have z2 : (str (Entries.bytes (tk, dk))).size ≤ 300 := by
            rw [Nums.str_size, Entries.bytes_length]
            have := (Entries.ent_ok HEk.out).2.2
            simp only at this ⊢
            omega
          have HS2 : Hid (str (sofar l k) ++ str (Entries.bytes (tk, dk)) = str (sofar l (k + 1))) := by
            show _ = _
            rw [HX.out, Nums.str_append]
          generalize str (sofar l k) = q1 at z1 HS2
          generalize str (Entries.bytes (tk, dk)) = q2 at z2 HS2
          go_wp2_with fail
          go_roundw
          case rel => exact ⟨k + 1, by omega, by go_num, by rw [HS2.out], bt hb b14⟩
          case measure => simp [intOf]; omega
        · have i1 : ¬ (k : Int) < (n : Int) := by omega
          have HV : Hid (sofar l k = packV l) := sofar_all l k (by omega)
          clear h0
          go_wp2_with fail
          go_meet
          case rel => exact ⟨by rw [HV.out], hb⟩
      · have hd : (((F : Nat) : Int) == 0) = false := by rw [beq_eq_false_iff_ne]; omega
        have HV : Hid (sofar l k = packV l) := sofar_no (by rw [HF.out]; exact h0) k
        clear h0
        by_cases hlt : k < n
        · have i1 : (k : Int) < (n : Int) := by omega
          go_wp2_with fail
          go_meet
          case rel => exact ⟨by rw [HV.out], hb⟩
        · have i1 : ¬ (k : Int) < (n : Int) := by omega
          go_wp2_with fail
          go_meet
          case rel => exact ⟨by rw [HV.out], hb⟩
  obtain ⟨rfl, bg⟩ := hcut
  replace hro := hro.of_block (bg.block _ hro.lt)
  replace hrn := hrn.of_block (bg.block _ hrn.lt)
  replace HR5 : Hid (Row wc a5 (leafsV l).length c5 (ints (leafsV l))) := HR5.out.below bg
  replace be := bt be bg
  clear bg
  go_wp2_with fail
  refine (WalkEnt.pack_any l a n cap _ (HR.out.below be) HZ.out).mono ?_
  rintro e w15 ⟨rfl, b15⟩
  replace hro := hro.of_block (b15.block _ hro.lt)
  replace hrn := hrn.of_block (b15.block _ hrn.lt)
  replace HR5 : Hid (Row w15 a5 (leafsV l).length c5 (ints (leafsV l))) := HR5.out.below b15
  replace be := bt be b15
  clear b15
  rw [HF.out]
  have e2 := beq_yes (str (packV l))
  generalize str (packV l) = X2 at e2
  go_wp2_with fail
  refine (cErr _ _ be).mono ?_
  rintro e w16 ⟨rfl, b16⟩
  replace hro := hro.of_block (b16.block _ hro.lt)
  replace hrn := hrn.of_block (b16.block _ hrn.lt)
  replace HR5 : Hid (Row w16 a5 (leafsV l).length c5 (ints (leafsV l))) := HR5.out.below b16
  replace be := bt be b16
  clear b16
  go_wp2_with fail
  refine (WalkEnt.leafs_any l a n cap _ (HR.out.below be) HZ.out).mono ?_
  rintro e w17 ⟨v17, rfl, o17, b17⟩
  obtain ⟨a6, c6, rfl, r6, _⟩ := owns_row o17
  have HR6 : Hid (Row w17 a6 (leafsV l).length c6 (ints (leafsV l))) := r6
  replace hro := hro.of_block (b17.block _ hro.lt)
  replace hrn := hrn.of_block (b17.block _ hrn.lt)
  replace HR5 : Hid (Row w17 a5 (leafsV l).length c5 (ints (leafsV l))) := HR5.out.below b17
  replace be := bt be b17
  clear b17 o17 r6
  rw [HF.out]
  have hl4 : (leafsV l).length ≤ 1000000 := by
    unfold leafsV
    split
    · rename_i h
      have := (Entries.ents_ok h).1
      simp only [Entries.leafsOf, List.length_map]
      omega
    · exact Nat.zero_le _
  go_wp2_with fail
  refine (cErr _ _ be).mono ?_
  rintro e w18 ⟨rfl, b18⟩
  replace hro := hro.of_block (b18.block _ hro.lt)
  replace hrn := hrn.of_block (b18.block _ hrn.lt)
  replace HR5 : Hid (Row w18 a5 (leafsV l).length c5 (ints (leafsV l))) := HR5.out.below b18
  replace HR6 : Hid (Row w18 a6 (leafsV l).length c6 (ints (leafsV l))) := HR6.out.below b18
  replace be := bt be b18
  clear b18
  go_wp2_with fail
  refine (WalkInts.ints_any _ _ a6 a5 _ _ c6 c5 _ HR6.out HR5.out hl4).mono ?_
  rintro e w19 ⟨rfl, b19⟩
  replace hro := hro.of_block (b19.block _ hro.lt)
  replace hrn := hrn.of_block (b19.block _ hrn.lt)
  replace be := bt be b19
  clear b19 HR5 HR6 hl4 HF
  rw [decide_eq_true rfl]
  -- bytes as many
  go_wp2_with fail
  refine (WalkUnpackRef.unpack_any t _ HT.out).mono ?_
  intro e w20 hTo
  obtain ⟨v20, ok, he, hok, hown, b20⟩ : ∃ (v : Value) (ok : Bool), e = .returned (.tuple #[v, .bool ok]) ∧ ok = (unpack t.data.toList).isSome ∧ (ok = true → w20.ownsRow w19.heap.size 33 2 v (unpackV t.data.toList).length (cells (unpackV t.data.toList))) ∧ Below w19.heap.size w19 w20 := by
    obtain ⟨h1, h2, h3⟩ := hTo
    cases hu : unpack t.data.toList with
    | none =>
      obtain ⟨a', n', c', he⟩ := h2 hu
      exact ⟨_, false, he, rfl, fun h => (by cases h), h3⟩
    | some m =>
      obtain ⟨v, he, ho⟩ := h1 m hu
      refine ⟨v, true, he, rfl, fun _ => ?_, h3⟩
      rw [(Entries.unpack_is hu).2]
      exact ho
  subst he
  have HOK : Hid (ok = (unpack t.data.toList).isSome) := hok
  have HOW : Hid (ok = true → w20.ownsRow w19.heap.size 33 2 v20 (unpackV t.data.toList).length (cells (unpackV t.data.toList))) := hown
  replace hro := hro.of_block (b20.block _ hro.lt)
  replace hrn := hrn.of_block (b20.block _ hrn.lt)
  replace be := bt be b20
  clear hok hown b20 hTo
  go_upto_if 120 with fail
  go_cut [9, 28] from 119 to 120 (fun e v wc => e = .int .i64 (unpackE t.data.toList : Nat) ∧ wc.ownsRow w19.heap.size 33 2 v (unpackV t.data.toList).length (cells (unpackV t.data.toList)) ∧ w20 = wc)
  case first => as_aux_lemma =>
    cases ok
    · have hu : unpack t.data.toList = none := by have := HOK.out; simpa using this.symm
      have HV : Hid (unpackE t.data.toList = 2 ∧ unpackV t.data.toList = []) := Entries.unpack_not hu
      clear hu
      go_wp2_with fail
      go_meet
      case rel => exact ⟨by rw [HV.out.1]; rfl, by rw [HV.out.2]; exact World.ownsRow_nil _ _ _ _, rfl⟩
    · have HV : Hid (unpackE t.data.toList = 0) := by show _ = _; unfold unpackE; rw [← HOK.out]; rfl
      have HO9 : Hid (w20.ownsRow w19.heap.size 33 2 v20 (unpackV t.data.toList).length (cells (unpackV t.data.toList))) := HOW.out rfl
      clear HOW
      go_wp2_with fail
      go_meet
      case rel => exact ⟨by rw [HV.out]; rfl, HO9.out, rfl⟩
  obtain ⟨rfl, ho7, rfl⟩ := hcut
  obtain ⟨a7, c7, rfl, r7⟩ := owns_wide ho7
  have HR7 : Hid (Wide 2 w20 a7 (unpackV t.data.toList).length c7 (cells (unpackV t.data.toList))) := r7
  clear ho7 r7 HOK HOW
  go_wp2_with fail
  refine (WalkEnt.unpack_any t _ HT.out).mono ?_
  rintro e w21 ⟨v21, rfl, o21, b21⟩
  obtain ⟨a8, c8, rfl, r8⟩ := owns_wide o21
  have HR8 : Hid (Wide 2 w21 a8 (unpackV t.data.toList).length c8 (cells (unpackV t.data.toList))) := r8
  replace hro := hro.of_block (b21.block _ hro.lt)
  replace hrn := hrn.of_block (b21.block _ hrn.lt)
  replace HR7 : Hid (Wide 2 w21 a7 (unpackV t.data.toList).length c7 (cells (unpackV t.data.toList))) := HR7.out.below b21
  replace be := bt be b21
  clear b21 o21 r8
  have hl7 := Entries.unpackV_len t.data.toList
  go_wp2_with fail
  refine (cErr _ _ be).mono ?_
  rintro e w22 ⟨rfl, b22⟩
  replace hro := hro.of_block (b22.block _ hro.lt)
  replace hrn := hrn.of_block (b22.block _ hrn.lt)
  replace HR7 : Hid (Wide 2 w22 a7 (unpackV t.data.toList).length c7 (cells (unpackV t.data.toList))) := HR7.out.below b22
  replace HR8 : Hid (Wide 2 w22 a8 (unpackV t.data.toList).length c8 (cells (unpackV t.data.toList))) := HR8.out.below b22
  replace be := bt be b22
  clear b22
  go_wp2_with fail
  refine (WalkEntsSame.entries_same _ a8 a7 _ c8 c7 _ HR8.out HR7.out (by omega)).mono ?_
  rintro e w23 ⟨rfl, b23⟩
  replace hro := hro.of_block (b23.block _ hro.lt)
  replace hrn := hrn.of_block (b23.block _ hrn.lt)
  have HBE : Hid (Below w.heap.size w w23) := bt HB0.out (bt be b23)
  have r0 := hro.cell (i := 0) (by omega)
  have r1 := hro.cell (i := 1) (by omega)
  have q0 := hrn.cell (i := 0) (by omega)
  have q1 := hrn.cell (i := 1) (by omega)
  rw [if_pos rfl] at r0 q0
  rw [if_neg (by decide)] at r1 q1
  have e3 := beq_yes y2
  have e4 : (y1 == y1) = true := by simp
  clear hro hrn be b23 HR7 HR8 cErr
  go_wp2_with fail
  go_ret
  exact ⟨rfl, HBE.out⟩

end Go.Proofs.YtibmgmadoaencadDoor.WalkEntryTells
