/-
  strings.Cut at one letter: what stands ahead of it and behind it.
-/
import Derived.Test.YtfpkngpgmllhnaaGreatDoorHdRun
import Derived.Test.YtfpkngpgmllhnaaGreatDoorListRows
import Derived.Lib.IndexLaws
import Derived.BigQuiet
import Derived.Lib.QuietBelow
import Derived.Test.YtfpkngpgmllhnaaGreatDoorRuOne
import Derived.Test.YtfpkngpgmllhnaaGreatDoorSeAll
import Derived.Test.YtfpkngpgmllhnaaGreatDoorRuPlain
import Derived.Test.YtfpkngpgmllhnaaGreatDoorEntRuns
import Derived.Deep.DeepMust
import Derived.Maps.AppendAt
import Derived.Deep.RegionHeld
import Derived.Test.YtfpkngpgmllhnaaGreatDoorKyRun
namespace Go.Proofs.YtfpkngpgmllhnaaGreatDoor.WalkRuCut
open Go.RowKit
open Nums (str)

/-- a text, cut at the first letter c: as the walk spells it -/
def cutV (s : ByteArray) (c : UInt8) : Value := if Lib.indexByte s.data.toList c = -1 then .tuple #[.string s, .string ⟨#[]⟩, .bool false] else .tuple #[.string (s.extract 0 (Lib.indexByte s.data.toList c).toNat), .string (s.extract ((Lib.indexByte s.data.toList c).toNat + 1) s.size), .bool true]
theorem cut_none {s : ByteArray} {c : UInt8} (h : c ∉ s.data.toList) : cutV s c = .tuple #[.string s, .string ⟨#[]⟩, .bool false] := by
  unfold cutV
  rw [if_pos]
  rcases Int.lt_or_le (-1) (Lib.indexByte s.data.toList c) with q | q
  · exfalso
    obtain ⟨o, ho⟩ := Int.eq_ofNat_of_zero_le (show 0 ≤ Lib.indexByte s.data.toList c by omega)
    have := (Lib.indexByte_some ho).1
    exact h (List.mem_of_getElem? this)
  · have := Lib.indexByte_ge s.data.toList c
    omega
theorem cut_some {s : ByteArray} {c : UInt8} {a b : List UInt8} (h : s.data.toList = a ++ c :: b) (hc : c ∉ a) : cutV s c = .tuple #[.string (str a), .string (str b), .bool true] := by
  have hi : Lib.indexByte s.data.toList c = (a.length : Int) := by
    rcases Int.lt_or_le (-1) (Lib.indexByte s.data.toList c) with q | q
    · obtain ⟨o, ho⟩ := Int.eq_ofNat_of_zero_le (show 0 ≤ Lib.indexByte s.data.toList c by omega)
      obtain ⟨h1, h2⟩ := Lib.indexByte_some ho
      rw [ho]
      rcases Nat.lt_trichotomy o a.length with q1 | q1 | q1
      · exfalso
        rw [h, List.getElem?_append_left q1] at h1
        exact hc (List.mem_of_getElem? h1)
      · rw [q1]
      · exfalso
        refine h2 _ q1 ?_
        rw [h, List.getElem?_append_right (Nat.le_refl _), Nat.sub_self]
        rfl
    · exfalso
      have hge := Lib.indexByte_ge s.data.toList c
      have := Lib.indexByte_none (show Lib.indexByte s.data.toList c = -1 by omega) a.length
      refine this ?_
      rw [h, List.getElem?_append_right (Nat.le_refl _), Nat.sub_self]
      rfl
  unfold cutV
  rw [hi, if_neg (by omega), Int.toNat_natCast]
  have hs : s = str (a ++ c :: b) := by rw [← h]; rfl
  have hsz : s.size = a.length + 1 + b.length := by rw [hs, Nums.str_size, List.length_append, List.length_cons]; omega
  have e1 : s.extract 0 a.length = str a := by
    rw [hs]
    unfold Nums.str
    apply ByteArray.ext
    apply Array.ext'
    simp
  have e2 : s.extract (a.length + 1) s.size = str b := by
    rw [hsz, hs]
    unfold Nums.str
    apply ByteArray.ext
    apply Array.ext'
    simp
  rw [e1, e2]

set_option maxHeartbeats 1000000 in
set_option maxRecDepth 100000 in
theorem byte_any (s : ByteArray) (c : Int) (w : World) :
    Calls Tryz.prog 129 #[.string s, .int .u8 c] w fun e w' => e = .returned (.int .i64 (Lib.indexByte s.data.toList c.toNat.toUInt8)) ∧ w' = w := by
  go_enter Tryz.func129, Tryz.ntmps129
  go_wp2
  rw [run_callFunc_extern Tryz.func156 (by kernel_rfl) (by kernel_rfl) (by kernel_rfl) (e := Extern.BytealgIndexByte.indexByte) (by kernel_rfl), Lib.run_indexByteString]
  simp only [Result.andThen]
  rw [Oper.upon_value]
  go_wp2
  go_ret
  exact ⟨rfl, rfl⟩

set_option maxHeartbeats 1000000 in
theorem index_any (s : ByteArray) (c : UInt8) (w : World) : Calls Tryz.prog 89 #[.string s, .string ⟨#[c]⟩] w fun e w' => e = .returned (.int .i64 (Lib.indexByte s.data.toList c)) ∧ w' = w := by
  have hc := byte_any s (c.toNat : Int) w
  rw [show ((c.toNat : Int)).toNat.toUInt8 = c by rw [Int.toNat_natCast]; simp] at hc
  have e0 : (ByteArray.mk #[c]).size = 1 := rfl
  have e1 : (ByteArray.mk #[c])[0]'(by rw [e0]; omega) = c := rfl
  by_cases he : s.data.toList = [c]
  · have hX : Lib.indexByte s.data.toList c = 0 := by rw [he, Lib.indexByte]; simp
    have hb : (([c] : List UInt8) == s.toList) = true := by rw [beq_iff_eq, ByteArray.toList_eq]; exact he.symm
    rw [hX]
    clear hX hc he
    go_enter Tryz.func89, Tryz.ntmps89
    go_wp2_with fail
    go_ret
    exact ⟨rfl, rfl⟩
  · have hb : (([c] : List UInt8) == s.toList) = false := by rw [beq_eq_false_iff_ne, ByteArray.toList_eq]; exact fun h => he h.symm
    generalize Lib.indexByte s.data.toList c = X at hc ⊢
    clear he
    go_enter Tryz.func89, Tryz.ntmps89
    go_wp2_with fail
    refine hc.mono ?_
    rintro e _ ⟨rfl, rfl⟩
    go_wp2_with fail
    go_ret
    exact ⟨rfl, rfl⟩

set_option maxHeartbeats 1000000 in
theorem slite_any (s : ByteArray) (c : UInt8) (w : World) (hs : s.size ≤ 140737488351232) : Calls Tryz.prog 50 #[.string s, .string ⟨#[c]⟩] w fun e w' => e = .returned (cutV s c) ∧ Below w.heap.size w w' := by
  have hx := index_any s c w
  have hge := Lib.indexByte_ge s.data.toList c
  have e0 : (ByteArray.mk #[c]).size = 1 := rfl
  by_cases h : Lib.indexByte s.data.toList c = -1
  · have HV : Hid (cutV s c = .tuple #[.string s, .string ⟨#[]⟩, .bool false]) := if_pos h
    rw [h] at hx
    clear h hge
    go_enter Tryz.func50, Tryz.ntmps50
    go_wp2_with fail
    refine hx.mono ?_
    rintro e _ ⟨rfl, rfl⟩
    clear hx
    go_wp2_with fail
    go_ret3
    exact ⟨congrArg Ending.returned HV.out.symm, Below.refl _ _⟩
  · have HV : Hid (cutV s c = .tuple #[.string (s.extract 0 (Lib.indexByte s.data.toList c).toNat), .string (s.extract ((Lib.indexByte s.data.toList c).toNat + 1) s.size), .bool true]) := if_neg h
    obtain ⟨o, ho⟩ := Int.eq_ofNat_of_zero_le (show 0 ≤ Lib.indexByte s.data.toList c by omega)
    have hol : o < s.size := by
      have := (List.getElem?_eq_some_iff.1 (Lib.indexByte_some ho).1).1
      rwa [show s.data.toList.length = s.size from Array.length_toList] at this
    rw [ho] at hx HV
    rw [Int.toNat_natCast] at HV
    have i1 : (0 : Int) ≤ (o : Int) := by omega
    have i2 : (o : Int) ≤ (s.size : Int) := by omega
    have i3 : (o : Int) + 1 ≤ (s.size : Int) := by omega
    have i4 : IntKind.i64.wrap ((o : Int) + 1) = (o : Int) + 1 := by rw [IntKind.wrap_i64]; omega
    clear h hge ho
    go_enter Tryz.func50, Tryz.ntmps50
    go_wp2_with fail
    refine hx.mono ?_
    rintro e w9 ⟨rfl, h9⟩
    rw [h9]
    clear hx h9 w9
    go_wp2_with fail
    go_quiet (fail)
    have HB : Hid (Below w.heap.size w (w.drewN nq)) := ⟨rfl, rfl, rfl, Nat.le_refl _, fun _ _ => rfl⟩
    go_wp2_with fail
    go_ret3
    exact ⟨congrArg Ending.returned HV.out.symm, HB.out⟩

theorem cut_any (s : ByteArray) (c : UInt8) (w : World) (hs : s.size ≤ 140737488351232) : Calls Tryz.prog 29 #[.string s, .string ⟨#[c]⟩] w fun e w' => e = .returned (cutV s c) ∧ Below w.heap.size w w' := by
  have hc := slite_any s c w hs
  obtain ⟨x, y, z, hV⟩ : ∃ x y z, cutV s c = .tuple #[x, y, z] := by
    unfold cutV
    split
    · exact ⟨_, _, _, rfl⟩
    · exact ⟨_, _, _, rfl⟩
  rw [hV] at hc ⊢
  clear hV
  go_enter Tryz.func29, Tryz.ntmps29
  go_wp2_with fail
  refine hc.mono ?_
  rintro e w1 ⟨rfl, b1⟩
  clear hc
  have HB : Hid (Below w.heap.size w w1) := b1
  clear b1
  go_wp2_with fail
  go_ret3
  exact ⟨rfl, HB.out⟩

end Go.Proofs.YtfpkngpgmllhnaaGreatDoor.WalkRuCut

/-
  An entry more in the log, as package run adds it.
-/
set_option maxRecDepth 100000
namespace Go.Proofs.YtfpkngpgmllhnaaGreatDoor.WalkRuAdd
open Go.RowKit
open Keeps (Kept owns_kept)
open Wides (Wide owns_wide)
open Lists (bt)
open EntRows (cells cells_append)
open Entries (Entry entE)
open WalkMi (Mi)
open Runs (Desk Fine addE addA)
open RunObj (Se two)
open WalkRuAs (Out bad)
open WalkRuCut (cutV)
open WalkHdLib (Tabs)
open WalkSeNum (Syn Num Told)
open Errs (errv errv0 errv_pos)
open Nums (str)

theorem infoE : (Tryz.prog.info? 65).map (fun i => (i.zero, i.size, i.bytes)) = some (some (.agg #[.int .i64 0, .string ⟨#[]⟩]), 2, 24) := by kernel_rfl
theorem cell_two_new (w : World) (x y : Value) (t : TypeId) : ∀ j u, [x, y][j]? = some u → (w.alloc (.cells #[x, y] t)).cell? ((⟨w.heap.size, 0, none⟩ : Addr).add j) = some u := by
  intro j u hj
  rw [show (⟨w.heap.size, 0, none⟩ : Addr).add j = ⟨w.heap.size, j, none⟩ by unfold Addr.add; split <;> simp_all]
  match j, hj with
  | 0, hj => simp at hj; subst hj; simp
  | 1, hj => simp at hj; subst hj; simp
  | j + 2, hj => simp at hj

/-- what a line of the session leaves -/
def RunLeft (w w' : World) (B b : Nat) (F : Nat → Prop) (d' : Desk) : Prop := (∃ F', Se w' B b F' d' ∧ ∀ k, F' k → F k ∨ w.heap.size ≤ k) ∧ Kept F w w'
theorem left_same {w w' : World} {B b : Nat} {F : Nat → Prop} {d : Desk} (h : Se w B b F d) (q : Below w.heap.size w w') : RunLeft w w' B b F d := ⟨⟨F, h.below q, fun _ hk => .inl hk⟩, Kept.of_below F q⟩

/-- one more lies in the log -/
theorem se_log {w : World} {B b : Nat} {F : Nat → Prop} {d : Desk} (h : Se w B b F d) (x : Entry) {bm : Nat} {v v1 : Value} {G : Nat → Prop} (h1 : w.rowIs b 74 2 (two v (.pointer (some ⟨bm, 0, none⟩)))) (_ : w.ownsRow B 65 2 v d.log.length (cells d.log)) (h3 : Mi w B bm G 7 d.mir) (h5 : ∀ k, G k → k ≠ b ∧ v.ownBlock ≠ some k) (h4 : v.ownBlock ≠ some b) (h6 : ∀ k, F k ↔ k = b ∨ v.ownBlock = some k ∨ G k)
    {w1 : World} (r1 : w1.rowIs b 74 2 (two v (.pointer (some ⟨bm, 0, none⟩)))) (o1 : w1.ownsRow B 65 2 v1 (d.log.length + 1) (cells d.log ++ [.int .i64 x.1, .string x.2])) (at1 : v1.ownBlock = v.ownBlock ∨ ∃ k, v1.ownBlock = some k ∧ w.heap.size ≤ k) (k1 : Kept (fun k => v.ownBlock = some k) w w1) :
    RunLeft w (w1.setCell ⟨b, 0, none⟩ v1) B b F ⟨d.log ++ [x], d.mir⟩ := by
  have hbl := h1.lt
  have ap1 : v1.ownBlock ≠ some b := by
    rcases at1 with e | ⟨k, e, hk⟩
    · rw [e]; exact h4
    · rw [e]; intro q; have := Option.some.inj q; omega
  have ks : Kept (fun k => k = b) w1 (w1.setCell ⟨b, 0, none⟩ v1) := (Kept.refl (fun k => k = b) w1).setCell (.inl rfl) _
  have kk : Kept (fun k => k = b ∨ v.ownBlock = some k) w (w1.setCell ⟨b, 0, none⟩ v1) := (k1.mono fun i hi => .inr hi).setCell (p := ⟨b, 0, none⟩) (.inl (.inl rfl)) _
  refine ⟨⟨fun k => k = b ∨ v1.ownBlock = some k ∨ G k, ⟨⟨bm, v1, G, ?_, ?_, h3.kept kk fun i hi q => by rcases q with q | q; exact (h5 i hi).1 q; exact (h5 i hi).2 q, ap1, fun k hk => ⟨(h5 k hk).1, ?_⟩, fun _ => Iff.rfl⟩, h.above⟩, ?_⟩, kk.mono fun i hi => (h6 i).2 (hi.imp_right .inl)⟩
  · exact (r1.set 0 _).congr fun i hi => by match i, hi with | 0, _ => rfl | 1, _ => rfl
  · rw [show (d.log ++ [x]).length = d.log.length + 1 by simp, show cells (d.log ++ [x]) = cells d.log ++ [.int .i64 x.1, .string x.2] by rw [cells_append]; rfl]
    exact owns_kept o1 ks fun i hi q => ap1 (by rw [hi, q])
  · rcases at1 with e | ⟨j, e, hj⟩
    · rw [e]; exact (h5 k hk).2
    · rw [e]; intro q; have := Option.some.inj q; have := (h3.foot k hk).2; omega
  · rintro k (hk | hk | hk)
    · exact .inl ((h6 k).2 (.inl hk))
    · rcases at1 with e | ⟨j, e, hj⟩
      · exact .inl ((h6 k).2 (.inr (.inl (by rw [← e]; exact hk))))
      · refine .inr ?_
        rw [e] at hk
        have := Option.some.inj hk
        omega
    · exact .inl ((h6 k).2 (.inr (.inr hk)))

set_option maxHeartbeats 8000000 in
theorem add_any {w : World} {B b : Nat} {F : Nat → Prop} {d : Desk} (h : Se w B b F d) (hf : Fine d) (hB : B ≤ w.heap.size) (hA : Tabs w) (hS : Syn w) (s : ByteArray) (hs : s.size ≤ 140737488351232) :
    Calls Tryz.prog 34 #[.pointer (some ⟨b, 0, none⟩), .string s] w fun e w' => ∃ t ev, e = .returned (.tuple #[.string t, ev]) ∧ Out t ev (addA d s.data.toList).1 ∧ RunLeft w w' B b F (addA d s.data.toList).2 := by
  have HSe : Hid (Se w B b F d) := h
  have HT : Hid (∀ w', Below w.heap.size w w' → Tabs w' ∧ Syn w') := fun w' q => ⟨hA.below q, hS.below q⟩
  have cC := WalkRuCut.cut_any s 32 w hs
  cases hw : Runs.word s.data.toList with
  | none =>
    rw [WalkRuCut.cut_none (Runs.word_no hw)] at cC
    have HV : Hid (addA d s.data.toList = (Runs.badT, d)) := by show _ = _; unfold Runs.addA; rw [hw]
    have HN : Hid (∀ w', Below w.heap.size w w' → Calls Tryz.prog 62 #[.string s] w' fun e w'' => Num s.data.toList w' e w'') := fun w' q => WalkSeNum.number_any s w' (HT.out w' q).1 (HT.out w' q).2
    clear h hf hA hS hw HT
    go_enter Tryz.func34, Tryz.ntmps34
    go_wp2_with fail
    refine cC.mono ?_
    rintro e w1 ⟨rfl, b1⟩
    have HB1 : Hid (Below w.heap.size w w1) := b1
    have cN := HN.out _ b1
    clear cC b1 HN
    go_wp2_with fail
    refine cN.mono ?_
    rintro e w2 ⟨n, ok, rfl, _, b2⟩
    have HB2 : Hid (Below w.heap.size w w2) := bt HB1.out b2
    clear cN b2
    cases ok with
    | true =>
      go_wp2_with fail
      refine (RunObj.refuse_any _).mono ?_
      rintro e _ ⟨rfl, rfl⟩
      go_wp2_with fail
      go_ret2
      refine ⟨_, _, rfl, ?_⟩
      rw [HV.out]
      exact ⟨.inr (.inr ⟨rfl, rfl⟩), left_same HSe.out HB2.out⟩
    | false =>
      go_wp2_with fail
      refine (RunObj.refuse_any _).mono ?_
      rintro e _ ⟨rfl, rfl⟩
      go_wp2_with fail
      go_ret2
      refine ⟨_, _, rfl, ?_⟩
      rw [HV.out]
      exact ⟨.inr (.inr ⟨rfl, rfl⟩), left_same HSe.out HB2.out⟩
  | some p =>
    obtain ⟨a, t⟩ := p
    obtain ⟨es, ha⟩ := Runs.word_some hw
    rw [WalkRuCut.cut_some es ha] at cC
    have hsz : s.size = a.length + 1 + t.length := by rw [← show s.data.toList.length = s.size from Array.length_toList, es, List.length_append, List.length_cons]; omega
    have hts : (str t).size ≤ maxLen := by rw [Nums.str_size]; unfold maxLen; omega
    have HN : Hid (∀ w', Below w.heap.size w w' → Calls Tryz.prog 62 #[.string (str a)] w' fun e w'' => Num a w' e w'') := fun w' q => WalkSeNum.number_any (str a) w' (HT.out w' q).1 (HT.out w' q).2
    have HW : Hid (Runs.word s.data.toList = some (a, t)) := hw
    have HFi : Hid (Fine d) := hf
    clear h hf hA hS hw HT es ha hsz
    generalize str a = A at cC HN
    have HSt : Hid (str t = str t) := rfl
    generalize hT0 : str t = T at cC hts HSt
    have HTe : Hid (str t = T) := hT0
    clear hT0 HSt
    go_enter Tryz.func34, Tryz.ntmps34
    go_wp2_with fail
    refine cC.mono ?_
    rintro e w1 ⟨rfl, b1⟩
    have HB1 : Hid (Below w.heap.size w w1) := b1
    have cN := HN.out _ b1
    clear cC b1 HN
    go_wp2_with fail
    refine cN.mono ?_
    rintro e w2 ⟨n, ok, rfl, hT, b2⟩
    have HB2 : Hid (Below w.heap.size w w2) := bt HB1.out b2
    clear cN b2
    rcases hT with ⟨k, hk, rfl, rfl⟩ | ⟨hk, rfl⟩
    · have HV : Hid (addA d s.data.toList = (Runs.tellE (addE d ((k : Int), T)), if addE d ((k : Int), T) = 0 then ⟨d.log ++ [((k : Int), T)], d.mir⟩ else d)) := by
        show _ = _
        unfold Runs.addA
        rw [HW.out]
        simp only
        rw [show Decimals.number a 4 = some k from hk, ← HTe.out]
      have cK := fun w' => WalkEntOne.check_any (k : Int) T w' hts
      clear hk HW hts
      have hsh : w2.heap.size < (w2.alloc (.cells #[.int .i64 (k : Int), .string T] 65)).heap.size := by simp
      have bA : Below w.heap.size w (w2.alloc (.cells #[.int .i64 (k : Int), .string T] 65)) := HB2.out.alloc HB2.out.size _
      have e0 : (w2.alloc (.cells #[.int .i64 (k : Int), .string T] 65)).cell? ⟨w2.heap.size, 0, none⟩ = some (.int .i64 (k : Int)) := by simp
      have e1 : (w2.alloc (.cells #[.int .i64 (k : Int), .string T] 65)).cell? ⟨w2.heap.size, 1, none⟩ = some (.string T) := by simp
      have aE := WalkEntOne.aggE
      have zE := WalkEntOne.sizeE
      go_upto_region 6 with fail
      generalize w2.alloc (.cells #[.int .i64 (k : Int), .string T] 65) = wA at hsh bA e0 e1 ⊢
      generalize w2.heap.size = g at hsh e0 e1 ⊢
      have HBA : Hid (Below w.heap.size w wA) := bA
      clear bA
      go_wp2_with fail
      refine (cK _).mono ?_
      rintro e w3 ⟨rfl, b3⟩
      have HB3 : Hid (Below w.heap.size w w3) := bt HBA.out b3
      have k0 := Lists.cell_below b3 e0
      have k1 := Lists.cell_below b3 e1
      have hg3 : g < w3.heap.size := Nat.lt_of_lt_of_le hsh b3.size
      clear b3 e0 e1 cK HB2 HBA hsh
      by_cases he : entE ((k : Int), T) = 0
      rotate_left
      · have hx : addE d ((k : Int), T) = entE ((k : Int), T) := if_neg he
        have HO : Hid (Out ⟨#[]⟩ (errv (entE ((k : Int), T))) (Runs.tellE (entE ((k : Int), T)))) := by
          have := RunObj.out_ok (entE ((k : Int), T)) (RunLess.ent_le _)
          unfold RunObj.okS at this
          rw [if_neg he] at this
          exact this
        have HV2 : Hid (addA d s.data.toList = (Runs.tellE (entE ((k : Int), T)), d)) := by
          show _ = _
          rw [HV.out, hx, if_neg he]
        rw [errv_pos _ he] at HO ⊢
        generalize entE ((k : Int), T) = E at HO HV2 ⊢
        clear k0 k1 hx he
        generalize (E : Int) = Ei at HO ⊢
        go_wp2_with fail
        go_ret2
        refine ⟨_, _, rfl, ?_⟩
        rw [HV2.out]
        exact ⟨HO.out, left_same HSe.out HB3.out⟩
      · rw [he, errv0]
        obtain ⟨bm, v, G, h1, h2, h3, h4, h5, h6⟩ := (HSe.out.below HB3.out).core
        have hSe3 := HSe.out.below HB3.out
        obtain ⟨av, cv, rfl, _⟩ := owns_wide h2
        have c0 : w3.cell? ⟨b, 0, none⟩ = some (.slice av d.log.length cv) := h1.cell (i := 0) (by omega)
        have hbl := h1.lt
        have hl200 := Runs.few HFi.out
        by_cases hN : d.log.length = 200
        · have hx : addE d ((k : Int), T) = 4 := by unfold Runs.addE; rw [if_pos he, if_pos (by omega)]
          have HV2 : Hid (addA d s.data.toList = (Runs.name 4, d)) := by
            show _ = _
            rw [HV.out, hx, if_neg (by decide)]
            rfl
          rw [hN] at c0
          clear h1 h2 h3 h4 h5 h6 k0 k1 he hN hx
          go_wp2_with fail
          go_ret2
          refine ⟨_, _, rfl, ?_⟩
          rw [HV2.out]
          exact ⟨.inr (.inl ⟨4, by decide, by decide, rfl, rfl⟩), left_same HSe.out HB3.out⟩
        · have hx : addE d ((k : Int), T) = 0 := by unfold Runs.addE; rw [if_pos he, if_neg (by omega)]
          have HV2 : Hid (addA d s.data.toList = (Runs.okT, ⟨d.log ++ [((k : Int), T)], d.mir⟩)) := by
            show _ = _
            rw [HV.out, hx, if_pos rfl]
            rfl
          obtain ⟨i0, hi, hz0, hz1, hz2⟩ := info_parts infoE
          have hBw : B ≤ w3.heap.size := Nat.le_trans hB HB3.out.size
          have hne : ((d.log.length : Int) == 200) = false := by rw [beq_eq_false_iff_ne]; omega
          have HL : Hid (d.log.length ≤ 200) := hl200
          have HH : Hid (w3.rowIs b 74 2 (two (.slice av d.log.length cv) (.pointer (some ⟨bm, 0, none⟩))) ∧ Mi w3 B bm G 7 d.mir ∧ (Value.slice av d.log.length cv).ownBlock ≠ some b ∧ (∀ k, G k → k ≠ b ∧ (Value.slice av d.log.length cv).ownBlock ≠ some k) ∧ ∀ k, F k ↔ k = b ∨ (Value.slice av d.log.length cv).ownBlock = some k ∨ G k) := ⟨h1, h3, h4, h5, h6⟩
          have HO : Hid (w3.ownsRow B 65 2 (.slice av d.log.length cv) d.log.length (cells d.log)) := h2
          clear h1 h2 h3 h4 h5 h6 he hx hN hl200
          have wnew : Wide 2 (w3.drew.alloc (.cells #[.int .i64 (k : Int), .string T] 65)) (some ⟨w3.heap.size, 0, none⟩) 1 1 (cells [((k : Int), T)]) := ⟨rfl, Nat.le_refl _, fun _ => ⟨w3.heap.size, 0, rfl, fun j u hj => by
            have := cell_two_new w3.drew (.int .i64 (k : Int)) (.string T) 65 j u hj
            rw [show (⟨w3.drew.heap.size, 0, none⟩ : Addr).add j = ⟨w3.heap.size, 0 + j, none⟩ by unfold Addr.add; split <;> simp_all] at this
            exact this⟩⟩
          have o5 := owns_kept HO.out (((Kept.refl (fun _ => False) w3).drew).alloc (.cells #[.int .i64 (k : Int), .string T] 65)) fun _ _ q => q
          obtain ⟨vn, wn, rn, on, kn, fn⟩ := WalkMirRef.run_some (w3.drew.alloc (.cells #[.int .i64 (k : Int), .string T] 65)) B (.slice av d.log.length cv) d.log o5 ⟨w3.heap.size, 0, none⟩ 1 1 [((k : Int), T)] wnew (by omega) (by have := HL.out; omega) (by simp; omega)
          have hsz : (w3.drew.alloc (.cells #[.int .i64 (k : Int), .string T] 65)).heap.size = w3.heap.size + 1 := by simp
          have kA : Kept (fun k => (Value.slice av d.log.length cv).ownBlock = some k) w3 wn := (((Kept.refl _ w3).drew).alloc _).trans kn fun i q => .inl q
          have rown := HH.out.1.of_block (kA.block b HH.out.1.lt HH.out.2.2.1)
          have z0 : wn.cell? ⟨b, 0, none⟩ = some (.slice av d.log.length cv) := rown.cell (i := 0) (by omega)
          have zf := rown.frozen 0
          have xA : (w3.alloc (.cells #[.int .i64 (k : Int), .string T] 65)).cell? ⟨b, 0, none⟩ = some (.slice av d.log.length cv) := (World.cell?_alloc_lt _ _ ⟨b, 0, none⟩ hbl).trans c0
          have HLeft : Hid (RunLeft w3 (wn.setCell ⟨b, 0, none⟩ vn) B b F ⟨d.log ++ [((k : Int), T)], d.mir⟩) := by
            obtain ⟨h1, h3, h4, h5, h6⟩ := HH.out
            refine se_log hSe3 ((k : Int), T) h1 HO.out h3 h5 h4 h6 rown ?_ ?_ kA
            · rw [cells_append, List.length_append] at on
              exact on
            · rcases on.2 with ⟨h, h0⟩ | ⟨gn, cap, cur, h, hgb, _⟩
              · simp at h0
              · rcases fn gn (by rw [h]; rfl) with e | e
                · exact .inl (by rw [h, e]; rfl)
                · exact .inr ⟨gn, by rw [h]; rfl, by rw [e, World.size_alloc]; show w3.heap.size ≤ _; simp⟩
          obtain ⟨N5, hN5⟩ : ∃ N5, N5 = (d.log ++ [((k : Int), T)]).length := ⟨_, rfl⟩
          rw [← hN5] at on
          clear hN5
          obtain ⟨an, cn, rfl, _⟩ := owns_wide on
          have HFin : Hid (RunLeft w (wn.setCell ⟨b, 0, none⟩ (.slice an N5 cn)) B b F ⟨d.log ++ [((k : Int), T)], d.mir⟩) := by
            obtain ⟨⟨F', q1, q2⟩, q3⟩ := HLeft.out
            exact ⟨⟨F', q1, fun i hi => (q2 i hi).imp id fun q => Nat.le_trans HB3.out.size q⟩, (Kept.of_below F HB3.out).trans q3 fun i hi => .inl hi⟩
          clear wnew o5 on kn fn hsz kA rown HLeft
          go_upto_region 11 with fail
          go_region_law (refine WalkMirHear.step_append_run rfl (.tmp 52) (.tmp 54) 27 27 rfl (.slice av d.log.length cv) (.slice (some ⟨w3.heap.size, 0, none⟩) 1 1) (by simp [Act.eval]) (by simp [Act.eval]) _ _ rn ?_)
          all_goals
            go_wp2_with fail
            go_ret2
            refine ⟨_, _, rfl, ?_⟩
            rw [HV2.out]
            exact ⟨.inl ⟨rfl, rfl⟩, HFin.out⟩
    · have HV : Hid (addA d s.data.toList = (Runs.badT, d)) := by
        show _ = _
        unfold Runs.addA
        rw [HW.out]
        simp only
        rw [show Decimals.number a 4 = none from hk]
      clear hk
      go_wp2_with fail
      refine (RunObj.refuse_any _).mono ?_
      rintro e _ ⟨rfl, rfl⟩
      go_wp2_with fail
      go_ret2
      refine ⟨_, _, rfl, ?_⟩
      rw [HV.out]
      exact ⟨.inr (.inr ⟨rfl, rfl⟩), left_same HSe.out HB2.out⟩

end Go.Proofs.YtfpkngpgmllhnaaGreatDoor.WalkRuAdd

/-
  A reply, spoilt by package run: another root, no times, or a proof that begins otherwise.
-/
set_option maxRecDepth 100000
namespace Go.Proofs.YtfpkngpgmllhnaaGreatDoor.WalkRuSpoil
open Go.RowKit
open Keeps (Kept owns_kept owns_row owns_base)
open Wides (Wide owns_wide)
open Lists (Row ints bt)
open EntRows (cells cells_length)
open Entries (Entry)
open Heads (Head)
open Runs (Desk replyOf Fine spoilH spoilP)
open MirVals (rv aggR sizeR cell7)
open HeadVals (hv aggH sizeH)
open Mirrors (Reply)
open WalkRuWanted (Rep put7_row put7_kept row_seven size_reply)

/-- the first k without their times -/
def mix : Nat → List Entry → List Entry
  | 0, l => l
  | _ + 1, [] => []
  | k + 1, e :: l => (0, e.2) :: mix k l
theorem mix_len : ∀ (k : Nat) (l : List Entry), (mix k l).length = l.length
  | 0, _ => rfl
  | _ + 1, [] => rfl
  | k + 1, e :: l => by rw [mix, List.length_cons, mix_len k l, List.length_cons]
theorem mix_full : ∀ (k : Nat) (l : List Entry), l.length ≤ k → mix k l = l.map fun e => (0, e.2)
  | 0, [], _ => rfl
  | 0, _ :: _, h => by simp at h
  | _ + 1, [], _ => rfl
  | k + 1, e :: l, h => by rw [mix, mix_full k l (by simpa using h)]; rfl
theorem mix_next : ∀ (k : Nat) (l : List Entry), k < l.length → (cells (mix k l)).set (k * 2) (.int .i64 0) = cells (mix (k + 1) l)
  | _, [], h => by simp at h
  | 0, e :: l, _ => rfl
  | k + 1, e :: l, h => by
    have := mix_next k l (by simpa using h)
    rw [mix, mix, cells, cells, show (k + 1) * 2 = k * 2 + 1 + 1 by omega, List.set_cons_succ, List.set_cons_succ, this]
theorem mix_at : ∀ (k : Nat) (l : List Entry), k < l.length → ∃ t, (cells (mix k l))[k * 2]? = some (.int .i64 t)
  | _, [], h => by simp at h
  | 0, e :: l, _ => ⟨_, rfl⟩
  | k + 1, e :: l, h => by
    obtain ⟨t, ht⟩ := mix_at k l (by simpa using h)
    refine ⟨t, ?_⟩
    rw [mix, cells, show (k + 1) * 2 = k * 2 + 1 + 1 by omega]
    exact ht

/-- append of nothing leaves a slice as it is -/
theorem run_append_none {P : Program} (w : World) (t ty e : TypeId) (i : TypeInfo) (ht : P.underlying t = some (.slice e)) (hi : P.info? e = some i) (b : Addr) (n c : Nat) (hc : n ≤ c) (a : Option Addr) (c' : Nat) :
    (Builtin.append_ #[t, t] ty #[.slice (some b) n c, .slice a 0 c']).run P w = .ok (.slice (some b) n c) w := by
  cases a with
  | none => simp [Builtin.append_, run_underlying ht, sizeOf, typeInfo, hi, Builtin.lenOf, Builtin.firstCells, hc, storeCells]
  | some ad => simp [Builtin.append_, run_underlying ht, sizeOf, typeInfo, hi, Builtin.lenOf, Builtin.firstCells, loadCells, loadCellsFrom, hc, storeCells]

theorem ret_spoil {w : World} {g : Nat} {x0 x1 x2 x3 x4 x5 x6 : Value} (tmps : Array Value) (hp : tmps.getD 2 undef = .pointer (some ⟨g, 0, none⟩)) (h : w.heap[g]? = some (.cells #[x0, x1, x2, x3, x4, x5, x6] 87 (0, 0))) :
    (results Tryz.f60 tmps).run Tryz.prog w = .ok (.agg #[x0, x1, x2, x3, x4, x5, x6]) w :=
  results_cell_row rfl tmps w g _ #[x0, x1, x2, x3, x4, x5, x6] (0, 0) _ hp h Tryz.underlying87 rfl size_reply

set_option maxHeartbeats 8000000 in
theorem head_any (h : Head) (a5 : Option Addr) (c5 : Nat) (a6 : Option Addr) (c6 : Nat) (w : World) (h0 : 0 ≤ h.root) (h1 : h.root < 2 ^ 62) :
    Calls Tryz.prog 60 #[rv ⟨1, h, [], []⟩ a5 c5 a6 c6] w fun e w' => e = .returned (rv ⟨1, spoilH h, [], []⟩ a5 c5 a6 c6) ∧ Below w.heap.size w w' := by
  have aR := aggR
  have zR := sizeR
  have aH := aggH
  have zH := sizeH
  obtain ⟨s, r, t, gn⟩ := h
  simp only at h0 h1
  have cA := fun w' => RunObj.another_any r w' h0 h1
  have HV : Hid (rv ⟨1, spoilH ⟨s, r, t, gn⟩, [], []⟩ a5 c5 a6 c6 = .agg #[.int .i64 1, .int .i64 s, .int .i64 (if r - 1 < 0 then 1 else r - 1), .int .i64 t, .int .i64 gn, .slice a5 0 c5, .slice a6 0 c6]) := rfl
  unfold rv
  simp only [List.length_nil]
  generalize (if r - 1 < 0 then 1 else r - 1) = R at cA HV
  clear h0 h1
  have r1 : ((w.alloc (.cells #[.int .i64 1, .int .i64 s, .int .i64 r, .int .i64 t, .int .i64 gn, .slice a5 0 c5, .slice a6 0 c6] 87)).alloc (.cells #[.int .i64 0, .int .i64 0, .int .i64 0, .int .i64 0, .int .i64 0, .slice none 0 0, .slice none 0 0] 87)).rowIs w.heap.size 87 7 (cell7 1 s r t gn (.slice a5 0 c5) (.slice a6 0 c6)) := by
    have := World.rowIs_alloc w #[.int .i64 1, .int .i64 s, .int .i64 r, .int .i64 t, .int .i64 gn, .slice a5 0 c5, .slice a6 0 c6] 87 (cell7 1 s r t gn (.slice a5 0 c5) (.slice a6 0 c6)) (by intro i hi; match i, hi with | 0, _ => rfl | 1, _ => rfl | 2, _ => rfl | 3, _ => rfl | 4, _ => rfl | 5, _ => rfl | 6, _ => rfl)
    exact this.of_block (((Below.refl _ _).alloc (Nat.le_refl _) _).block _ this.lt)
  have r2 : ((w.alloc (.cells #[.int .i64 1, .int .i64 s, .int .i64 r, .int .i64 t, .int .i64 gn, .slice a5 0 c5, .slice a6 0 c6] 87)).alloc (.cells #[.int .i64 0, .int .i64 0, .int .i64 0, .int .i64 0, .int .i64 0, .slice none 0 0, .slice none 0 0] 87)).rowIs (w.heap.size + 1) 87 7 (cell7 0 0 0 0 0 (.slice none 0 0) (.slice none 0 0)) := by
    have := World.rowIs_alloc (w.alloc (.cells #[.int .i64 1, .int .i64 s, .int .i64 r, .int .i64 t, .int .i64 gn, .slice a5 0 c5, .slice a6 0 c6] 87)) #[.int .i64 0, .int .i64 0, .int .i64 0, .int .i64 0, .int .i64 0, .slice none 0 0, .slice none 0 0] 87 (cell7 0 0 0 0 0 (.slice none 0 0) (.slice none 0 0)) (by intro i hi; match i, hi with | 0, _ => rfl | 1, _ => rfl | 2, _ => rfl | 3, _ => rfl | 4, _ => rfl | 5, _ => rfl | 6, _ => rfl)
    rw [World.size_alloc] at this
    exact this
  have b2 : Below w.heap.size w ((w.alloc (.cells #[.int .i64 1, .int .i64 s, .int .i64 r, .int .i64 t, .int .i64 gn, .slice a5 0 c5, .slice a6 0 c6] 87)).alloc (.cells #[.int .i64 0, .int .i64 0, .int .i64 0, .int .i64 0, .int .i64 0, .slice none 0 0, .slice none 0 0] 87)) := ((Below.refl _ _).alloc (Nat.le_refl _) _).alloc (by simp) _
  go_enter Tryz.func60, Tryz.ntmps60
  go_upto_region 1 with fail
  generalize ((w.alloc (.cells #[.int .i64 1, .int .i64 s, .int .i64 r, .int .i64 t, .int .i64 gn, .slice a5 0 c5, .slice a6 0 c6] 87)).alloc (.cells #[.int .i64 0, .int .i64 0, .int .i64 0, .int .i64 0, .int .i64 0, .slice none 0 0, .slice none 0 0] 87)) = w1 at r1 r2 b2 ⊢
  have m0 := r1.cell (i := 0) (by omega)
  have m2 := r1.cell (i := 2) (by omega)
  have f2 := r1.frozen 2
  simp only [cell7] at m0 m2
  have HR : Hid (w1.rowIs w.heap.size 87 7 (cell7 1 s r t gn (.slice a5 0 c5) (.slice a6 0 c6)) ∧ w1.rowIs (w.heap.size + 1) 87 7 (cell7 0 0 0 0 0 (.slice none 0 0) (.slice none 0 0)) ∧ Below w.heap.size w w1) := ⟨r1, r2, b2⟩
  clear r1 r2 b2
  go_wp2_with fail
  refine (cA _).mono ?_
  rintro e w9 ⟨rfl, h9⟩
  rw [h9]
  clear cA h9 w9
  go_upto_region 13 with fail
  obtain ⟨r1, r2, b2⟩ := HR.out
  have k4 : Kept (fun k => k = w.heap.size) w1 (w1.setCell ⟨w.heap.size, 2, none⟩ (.int .i64 R)) := (Kept.refl (fun k => k = w.heap.size) w1).setCell (.inl rfl) _
  have r4 : (w1.setCell ⟨w.heap.size, 2, none⟩ (.int .i64 R)).rowIs w.heap.size 87 7 (cell7 1 s R t gn (.slice a5 0 c5) (.slice a6 0 c6)) := (r1.set 2 _).congr fun i hi => by match i, hi with | 0, _ => rfl | 1, _ => rfl | 2, _ => rfl | 3, _ => rfl | 4, _ => rfl | 5, _ => rfl | 6, _ => rfl
  have rg4 := r2.of_block (k4.block (w.heap.size + 1) r2.lt (by omega))
  have HB4 : Hid (Below w.heap.size w (w1.setCell ⟨w.heap.size, 2, none⟩ (.int .i64 R))) := b2.setCell (Nat.le_refl _) _
  clear m0 m2 f2
  generalize w1.setCell ⟨w.heap.size, 2, none⟩ (.int .i64 R) = w4 at r4 rg4 HB4 ⊢
  have m0 := r4.cell (i := 0) (by omega)
  have m1 := r4.cell (i := 1) (by omega)
  have m2 := r4.cell (i := 2) (by omega)
  have m3 := r4.cell (i := 3) (by omega)
  have m4 := r4.cell (i := 4) (by omega)
  have m5 := r4.cell (i := 5) (by omega)
  have m6 := r4.cell (i := 6) (by omega)
  have n0 := rg4.cell (i := 0) (by omega)
  have n1 := rg4.cell (i := 1) (by omega)
  have n2 := rg4.cell (i := 2) (by omega)
  have n3 := rg4.cell (i := 3) (by omega)
  have n4 := rg4.cell (i := 4) (by omega)
  have n5 := rg4.cell (i := 5) (by omega)
  have n6 := rg4.cell (i := 6) (by omega)
  have fg := rg4.frozen
  simp only [cell7] at m0 m1 m2 m3 m4 m5 m6 n0 n1 n2 n3 n4 n5 n6
  have HG : Hid (w4.rowIs (w.heap.size + 1) 87 7 (cell7 0 0 0 0 0 (.slice none 0 0) (.slice none 0 0))) := rg4
  clear r1 r2 b2 r4 rg4 k4 HR
  go_wp2_with fail
  refine bodyPost_ret (ret_spoil _ rfl (put7_row HG.out _ _ _ _ _ _ _)) rfl ?_
  refine ⟨congrArg Ending.returned HV.out.symm, ?_⟩
  exact (put7_kept w4 (w.heap.size + 1) _ _ _ _ _ _ _).below (B := w.heap.size) (fun k hk => by rw [hk]; omega) HB4.out.size |> fun k => HB4.out.trans k

set_option maxHeartbeats 8000000 in
theorem some_any (l : List Entry) (a5 : Option Addr) (c5 : Nat) (a6 : Option Addr) (c6 : Nat) (w : World) (base : Nat) (hb : base ≤ w.heap.size) (ho : w.ownsRow base 65 2 (.slice a5 l.length c5) l.length (cells l)) :
    Calls Tryz.prog 60 #[rv ⟨2, Heads.zero, l, []⟩ a5 c5 a6 c6] w fun e w' => e = .returned (rv ⟨2, Heads.zero, l.map fun e => (0, e.2), []⟩ a5 c5 a6 c6) ∧ w'.ownsRow base 65 2 (.slice a5 l.length c5) l.length (cells (l.map fun e => (0, e.2))) ∧ Below base w w' ∧ Kept (fun k => (Value.slice a5 l.length c5).ownBlock = some k) w w' := by
  have aR := aggR
  have zR := sizeR
  have aE := WalkEntOne.aggE
  have zE := WalkEntOne.sizeE
  have HV : Hid (rv ⟨2, Heads.zero, l.map fun e => (0, e.2), []⟩ a5 c5 a6 c6 = .agg #[.int .i64 2, .int .i64 0, .int .i64 0, .int .i64 0, .int .i64 0, .slice a5 l.length c5, .slice a6 0 c6]) := by
    show _ = _
    unfold rv
    simp only [List.length_map]
    rfl
  have HM : Hid ((∀ k, k < l.length → (cells (mix k l)).set (k * 2) (.int .i64 0) = cells (mix (k + 1) l)) ∧ (∀ k, k < l.length → ∃ t, (cells (mix k l))[k * 2]? = some (.int .i64 t)) ∧ mix 0 l = l ∧ mix l.length l = l.map fun e => (0, e.2)) := ⟨fun k => mix_next k l, fun k => mix_at k l, rfl, mix_full _ _ (Nat.le_refl _)⟩
  have h0 : (rv ⟨2, Heads.zero, l, []⟩ a5 c5 a6 c6) = .agg #[.int .i64 2, .int .i64 0, .int .i64 0, .int .i64 0, .int .i64 0, .slice a5 l.length c5, .slice a6 0 c6] := rfl
  rw [h0]
  have r1 : ((w.alloc (.cells #[.int .i64 2, .int .i64 0, .int .i64 0, .int .i64 0, .int .i64 0, .slice a5 l.length c5, .slice a6 0 c6] 87)).alloc (.cells #[.int .i64 0, .int .i64 0, .int .i64 0, .int .i64 0, .int .i64 0, .slice none 0 0, .slice none 0 0] 87)).rowIs w.heap.size 87 7 (cell7 2 0 0 0 0 (.slice a5 l.length c5) (.slice a6 0 c6)) := by
    have := World.rowIs_alloc w #[.int .i64 2, .int .i64 0, .int .i64 0, .int .i64 0, .int .i64 0, .slice a5 l.length c5, .slice a6 0 c6] 87 (cell7 2 0 0 0 0 (.slice a5 l.length c5) (.slice a6 0 c6)) (by intro i hi; match i, hi with | 0, _ => rfl | 1, _ => rfl | 2, _ => rfl | 3, _ => rfl | 4, _ => rfl | 5, _ => rfl | 6, _ => rfl)
    exact this.of_block (((Below.refl _ _).alloc (Nat.le_refl _) _).block _ this.lt)
  have r2 : ((w.alloc (.cells #[.int .i64 2, .int .i64 0, .int .i64 0, .int .i64 0, .int .i64 0, .slice a5 l.length c5, .slice a6 0 c6] 87)).alloc (.cells #[.int .i64 0, .int .i64 0, .int .i64 0, .int .i64 0, .int .i64 0, .slice none 0 0, .slice none 0 0] 87)).rowIs (w.heap.size + 1) 87 7 (cell7 0 0 0 0 0 (.slice none 0 0) (.slice none 0 0)) := by
    have := World.rowIs_alloc (w.alloc (.cells #[.int .i64 2, .int .i64 0, .int .i64 0, .int .i64 0, .int .i64 0, .slice a5 l.length c5, .slice a6 0 c6] 87)) #[.int .i64 0, .int .i64 0, .int .i64 0, .int .i64 0, .int .i64 0, .slice none 0 0, .slice none 0 0] 87 (cell7 0 0 0 0 0 (.slice none 0 0) (.slice none 0 0)) (by intro i hi; match i, hi with | 0, _ => rfl | 1, _ => rfl | 2, _ => rfl | 3, _ => rfl | 4, _ => rfl | 5, _ => rfl | 6, _ => rfl)
    rw [World.size_alloc] at this
    exact this
  have b2 : Below w.heap.size w ((w.alloc (.cells #[.int .i64 2, .int .i64 0, .int .i64 0, .int .i64 0, .int .i64 0, .slice a5 l.length c5, .slice a6 0 c6] 87)).alloc (.cells #[.int .i64 0, .int .i64 0, .int .i64 0, .int .i64 0, .int .i64 0, .slice none 0 0, .slice none 0 0] 87)) := ((Below.refl _ _).alloc (Nat.le_refl _) _).alloc (by simp) _
  have o2 := owns_kept ho (Kept.of_below (fun _ => False) b2) fun _ _ q => q
  have hlt := ho.lt
  have hl5 : l.length ≤ maxLen := by
    rcases ho.2 with ⟨_, h⟩ | ⟨_, cap, _, _, _, _, h1, h2, _⟩
    · rw [h]; exact Nat.zero_le _
    · omega
  unfold maxLen at hl5
  generalize hN : l.length = N at *
  have HL : Hid (l.length = N) := hN
  clear ho hN h0
  go_enter Tryz.func60, Tryz.ntmps60
  go_upto_region 1 with fail
  generalize ((w.alloc (.cells #[.int .i64 2, .int .i64 0, .int .i64 0, .int .i64 0, .int .i64 0, .slice a5 N c5, .slice a6 0 c6] 87)).alloc (.cells #[.int .i64 0, .int .i64 0, .int .i64 0, .int .i64 0, .int .i64 0, .slice none 0 0, .slice none 0 0] 87)) = w1 at r1 r2 b2 o2 ⊢
  have m0 := r1.cell (i := 0) (by omega)
  have m5 := r1.cell (i := 5) (by omega)
  simp only [cell7] at m0 m5
  have HR : Hid (w1.rowIs w.heap.size 87 7 (cell7 2 0 0 0 0 (.slice a5 N c5) (.slice a6 0 c6)) ∧ w1.rowIs (w.heap.size + 1) 87 7 (cell7 0 0 0 0 0 (.slice none 0 0) (.slice none 0 0)) ∧ Below w.heap.size w w1) := ⟨r1, r2, b2⟩
  have HO : Hid (w1.ownsRow base 65 2 (.slice a5 N c5) N (cells l)) := o2
  have hw1 : w.heap.size + 1 < w1.heap.size := r2.lt
  clear r1 r2 b2 o2
  go_wp2_with fail
  go_loopw [20] (fun i wr => ∃ k : Nat, k ≤ N ∧ i = .int .i64 (k : Int) ∧ wr.ownsRow base 65 2 (.slice a5 N c5) N (cells (mix k l)) ∧ Hid (Kept (fun k => (Value.slice a5 N c5).ownBlock = some k) w1 wr)) (fun i _ => N - (intOf i).toNat)
  case atStart => exact ⟨0, Nat.zero_le _, rfl, by rw [HM.out.2.2.1]; exact HO.out, Kept.refl _ _⟩
  case round =>
    obtain ⟨k, hk, rfl, hO, HK⟩ := hrel
    obtain ⟨r1, r2, b2⟩ := HR.out
    have HN : Hid (∀ i, (Value.slice a5 N c5).ownBlock = some i → i < w.heap.size ∧ base ≤ i) := fun i hi => ⟨(hlt i hi).2, (hlt i hi).1⟩
    have r4 := r1.of_block (HK.out.block _ r1.lt (fun h => by have := (HN.out _ h).1; omega))
    have rg4 := r2.of_block (HK.out.block _ r2.lt (fun h => by have := (HN.out _ h).1; omega))
    have HR4 : Hid (wr.rowIs w.heap.size 87 7 (cell7 2 0 0 0 0 (.slice a5 N c5) (.slice a6 0 c6)) ∧ wr.rowIs (w.heap.size + 1) 87 7 (cell7 0 0 0 0 0 (.slice none 0 0) (.slice none 0 0)) ∧ w.heap.size + 1 < wr.heap.size) := ⟨r4, rg4, rg4.lt⟩
    clear m0 m5 r1 r2 b2 hlt
    by_cases hlt : k < N
    · have i1 : (k : Int) < (N : Int) := by omega
      have p5 := r4.cell (i := 5) (by omega)
      simp only [cell7] at p5
      clear r4 rg4
      obtain ⟨g5, rfl⟩ : ∃ g5, a5 = some ⟨g5, 0, none⟩ := by
        rcases hO.2 with ⟨_, h⟩ | ⟨g, cap, cur, hv, _⟩
        · omega
        · simp only [Value.slice.injEq] at hv
          exact ⟨g, hv.1⟩
      obtain ⟨t, ht⟩ := HM.out.2.1 k hlt
      have hlm : k * 2 < (cells (mix k l)).length := (List.getElem?_eq_some_iff.1 ht).1
      have c0 : wr.cell? ⟨g5, k * 2, none⟩ = some (.int .i64 t) := (hO.cellAt _ (by have := HL.out; omega)).trans ht
      have f0 : wr.frozen? ⟨g5, k * 2, none⟩ = false := hO.frozenAt _
      have w1x : IntKind.i64.wrap ((k : Int) + 1) = (k : Int) + 1 := by rw [IntKind.wrap_i64]; omega
      have HOk : Hid (wr.ownsRow base 65 2 (.slice (some ⟨g5, 0, none⟩) N c5) N (cells (mix k l))) := hO
      clear hO ht hlm
      go_wp2_with fail
      have HON : Hid ((wr.setCell ⟨g5, k * 2, none⟩ (.int .i64 0)).ownsRow base 65 2 (.slice (some ⟨g5, 0, none⟩) N c5) N (cells (mix (k + 1) l))) := by
        rw [← HM.out.1 k hlt]
        exact (HOk.out.stored _ _).1
      have HKN : Hid (Kept (fun k => (Value.slice (some ⟨g5, 0, none⟩) N c5).ownBlock = some k) w1 (wr.setCell ⟨g5, k * 2, none⟩ (.int .i64 0))) := HK.out.setCell (p := ⟨g5, k * 2, none⟩) (.inl rfl) _
      go_roundw
      case rel => exact ⟨k + 1, by omega, by go_num, HON.out, HKN.out⟩
      case measure => simp [intOf]; omega
    · have i1 : ¬ (k : Int) < (N : Int) := by omega
      have hkN : k = N := by omega
      subst hkN
      have HOF : Hid (wr.ownsRow base 65 2 (.slice a5 k c5) k (cells (l.map fun e => (0, e.2)))) := by
        have := HM.out.2.2.2
        show World.ownsRow _ _ _ _ _ _ _
        rw [← this]
        exact hO
      have HBF : Hid (Below base w wr) := by
        have q1 : Below base w w1 := HR.out.2.2.mono hb
        exact q1.trans (HK.out.below (fun i hi => (HN.out i hi).2) (by omega))
      have HKF : Hid (Kept (fun i => (Value.slice a5 k c5).ownBlock = some i) w wr) := (Kept.of_below (fun i => (Value.slice a5 k c5).ownBlock = some i) HR.out.2.2).trans HK.out fun i hi => .inl hi
      clear hO hlt HR HO
      have m0 := r4.cell (i := 0) (by omega)
      have m1 := r4.cell (i := 1) (by omega)
      have m2 := r4.cell (i := 2) (by omega)
      have m3 := r4.cell (i := 3) (by omega)
      have m4 := r4.cell (i := 4) (by omega)
      have m5 := r4.cell (i := 5) (by omega)
      have m6 := r4.cell (i := 6) (by omega)
      have n0 := rg4.cell (i := 0) (by omega)
      have n1 := rg4.cell (i := 1) (by omega)
      have n2 := rg4.cell (i := 2) (by omega)
      have n3 := rg4.cell (i := 3) (by omega)
      have n4 := rg4.cell (i := 4) (by omega)
      have n5 := rg4.cell (i := 5) (by omega)
      have n6 := rg4.cell (i := 6) (by omega)
      have fg := rg4.frozen
      simp only [cell7] at m0 m1 m2 m3 m4 m5 m6 n0 n1 n2 n3 n4 n5 n6
      clear r4 rg4
      go_wp2_with fail
      refine bodyPost_ret (ret_spoil _ rfl (put7_row HR4.out.2.1 _ _ _ _ _ _ _)) rfl ?_
      have kp := fun x0 x1 x2 x3 x4 x5 x6 => put7_kept wr (w.heap.size + 1) x0 x1 x2 x3 x4 x5 x6
      refine ⟨congrArg Ending.returned HV.out.symm, owns_kept HOF.out (kp _ _ _ _ _ _ _) (fun i hi => by have := (HN.out i hi).1; omega), HBF.out.trans ((kp _ _ _ _ _ _ _).below (fun i hi => by rw [hi]; omega) (by have := HR4.out.2.2; omega)), HKF.out.trans (kp _ _ _ _ _ _ _) (fun i hi => .inr (by rw [hi]; omega))⟩

set_option maxHeartbeats 8000000 in
theorem proof_any (l : List Int) (a5 : Option Addr) (c5 : Nat) (a6 : Option Addr) (c6 : Nat) (w : World) (base : Nat) (hb : base ≤ w.heap.size) (hl : l.length ≤ 1000000) (ho : w.ownsRow base 3 1 (.slice a6 l.length c6) l.length (ints l)) :
    Calls Tryz.prog 60 #[rv ⟨3, Heads.zero, [], l⟩ a5 c5 a6 c6] w fun e w' => ∃ a c, e = .returned (rv ⟨3, Heads.zero, [], spoilP l⟩ a5 c5 a c) ∧ w'.ownsRow base 3 1 (.slice a (spoilP l).length c) (spoilP l).length (ints (spoilP l)) ∧ Below w.heap.size w w' := by
  have aR := aggR
  have zR := sizeR
  obtain ⟨i0, hi, hz0, hz1, hz2⟩ := info_parts WalkEnt.infoI
  have h0 : (rv ⟨3, Heads.zero, [], l⟩ a5 c5 a6 c6) = .agg #[.int .i64 3, .int .i64 0, .int .i64 0, .int .i64 0, .int .i64 0, .slice a5 0 c5, .slice a6 l.length c6] := rfl
  rw [h0]
  clear h0
  have HV : Hid (∀ a c, rv ⟨3, Heads.zero, [], spoilP l⟩ a5 c5 a c = .agg #[.int .i64 3, .int .i64 0, .int .i64 0, .int .i64 0, .int .i64 0, .slice a5 0 c5, .slice a (spoilP l).length c]) := fun a c => rfl
  have r1 : ((w.alloc (.cells #[.int .i64 3, .int .i64 0, .int .i64 0, .int .i64 0, .int .i64 0, .slice a5 0 c5, .slice a6 l.length c6] 87)).alloc (.cells #[.int .i64 0, .int .i64 0, .int .i64 0, .int .i64 0, .int .i64 0, .slice none 0 0, .slice none 0 0] 87)).rowIs w.heap.size 87 7 (cell7 3 0 0 0 0 (.slice a5 0 c5) (.slice a6 l.length c6)) := by
    have := World.rowIs_alloc w #[.int .i64 3, .int .i64 0, .int .i64 0, .int .i64 0, .int .i64 0, .slice a5 0 c5, .slice a6 l.length c6] 87 (cell7 3 0 0 0 0 (.slice a5 0 c5) (.slice a6 l.length c6)) (by intro i hi; match i, hi with | 0, _ => rfl | 1, _ => rfl | 2, _ => rfl | 3, _ => rfl | 4, _ => rfl | 5, _ => rfl | 6, _ => rfl)
    exact this.of_block (((Below.refl _ _).alloc (Nat.le_refl _) _).block _ this.lt)
  have r2 : ((w.alloc (.cells #[.int .i64 3, .int .i64 0, .int .i64 0, .int .i64 0, .int .i64 0, .slice a5 0 c5, .slice a6 l.length c6] 87)).alloc (.cells #[.int .i64 0, .int .i64 0, .int .i64 0, .int .i64 0, .int .i64 0, .slice none 0 0, .slice none 0 0] 87)).rowIs (w.heap.size + 1) 87 7 (cell7 0 0 0 0 0 (.slice none 0 0) (.slice none 0 0)) := by
    have := World.rowIs_alloc (w.alloc (.cells #[.int .i64 3, .int .i64 0, .int .i64 0, .int .i64 0, .int .i64 0, .slice a5 0 c5, .slice a6 l.length c6] 87)) #[.int .i64 0, .int .i64 0, .int .i64 0, .int .i64 0, .int .i64 0, .slice none 0 0, .slice none 0 0] 87 (cell7 0 0 0 0 0 (.slice none 0 0) (.slice none 0 0)) (by intro i hi; match i, hi with | 0, _ => rfl | 1, _ => rfl | 2, _ => rfl | 3, _ => rfl | 4, _ => rfl | 5, _ => rfl | 6, _ => rfl)
    rw [World.size_alloc] at this
    exact this
  have b2 : Below w.heap.size w ((w.alloc (.cells #[.int .i64 3, .int .i64 0, .int .i64 0, .int .i64 0, .int .i64 0, .slice a5 0 c5, .slice a6 l.length c6] 87)).alloc (.cells #[.int .i64 0, .int .i64 0, .int .i64 0, .int .i64 0, .int .i64 0, .slice none 0 0, .slice none 0 0] 87)) := ((Below.refl _ _).alloc (Nat.le_refl _) _).alloc (by simp) _
  obtain ⟨a', c', hv, hr, _⟩ := owns_row (owns_kept ho (Kept.of_below (fun _ => False) b2) fun _ _ q => q)
  obtain ⟨rfl, rfl⟩ : a6 = a' ∧ c6 = c' := by simpa using hv
  have hcl := hr.2.1
  clear ho hv
  go_enter Tryz.func60, Tryz.ntmps60
  go_upto_region 1 with fail
  generalize ((w.alloc (.cells #[.int .i64 3, .int .i64 0, .int .i64 0, .int .i64 0, .int .i64 0, .slice a5 0 c5, .slice a6 l.length c6] 87)).alloc (.cells #[.int .i64 0, .int .i64 0, .int .i64 0, .int .i64 0, .int .i64 0, .slice none 0 0, .slice none 0 0] 87)) = w1 at r1 r2 b2 hr ⊢
  have m0 := r1.cell (i := 0) (by omega)
  have m6 := r1.cell (i := 6) (by omega)
  simp only [cell7] at m0 m6
  have HR : Hid (w1.rowIs w.heap.size 87 7 (cell7 3 0 0 0 0 (.slice a5 0 c5) (.slice a6 l.length c6)) ∧ w1.rowIs (w.heap.size + 1) 87 7 (cell7 0 0 0 0 0 (.slice none 0 0) (.slice none 0 0)) ∧ Below w.heap.size w w1) := ⟨r1, r2, b2⟩
  have hw1 : w.heap.size + 1 < w1.heap.size := r2.lt
  have HOn : Hid ((w1.alloc (.cells #[.int .i64 0] 3)).ownsRow w1.heap.size 3 1 (.slice (some ⟨w1.heap.size, 0, none⟩) 1 1) 1 [.int .i64 0]) := ⟨rfl, .inr ⟨w1.heap.size, 1, #[.int .i64 0], rfl, Nat.le_refl _, heap_alloc_new w1 _, Nat.le_refl _, by unfold maxLen; omega, rfl, rfl⟩⟩
  have bn : Below w1.heap.size w1 (w1.alloc (.cells #[.int .i64 0] 3)) := (Below.refl _ _).alloc (Nat.le_refl _) _
  clear r1 r2 b2
  have HFin : Hid (∀ (wn : World) (a : Option Addr) (c : Nat), Below w1.heap.size w1 wn → wn.ownsRow w1.heap.size 3 1 (.slice a (spoilP l).length c) (spoilP l).length (ints (spoilP l)) →
      ((wn.setCell ⟨w.heap.size, 6, none⟩ (.slice a (spoilP l).length c)).rowIs w.heap.size 87 7 (cell7 3 0 0 0 0 (.slice a5 0 c5) (.slice a (spoilP l).length c)) ∧ (wn.setCell ⟨w.heap.size, 6, none⟩ (.slice a (spoilP l).length c)).rowIs (w.heap.size + 1) 87 7 (cell7 0 0 0 0 0 (.slice none 0 0) (.slice none 0 0)) ∧ (wn.setCell ⟨w.heap.size, 6, none⟩ (.slice a (spoilP l).length c)).ownsRow w1.heap.size 3 1 (.slice a (spoilP l).length c) (spoilP l).length (ints (spoilP l)) ∧ Below w.heap.size w (wn.setCell ⟨w.heap.size, 6, none⟩ (.slice a (spoilP l).length c)))) := by
    intro wn a c bw on
    obtain ⟨r1, r2, b2⟩ := HR.out
    have k4 : Kept (fun k => k = w.heap.size) wn (wn.setCell ⟨w.heap.size, 6, none⟩ (.slice a (spoilP l).length c)) := (Kept.refl (fun k => k = w.heap.size) wn).setCell (.inl rfl) _
    have r3 := r1.of_block (bw.block _ r1.lt)
    have r4 := r2.of_block (bw.block _ r2.lt)
    refine ⟨(r3.set 6 _).congr fun i hi => by match i, hi with | 0, _ => rfl | 1, _ => rfl | 2, _ => rfl | 3, _ => rfl | 4, _ => rfl | 5, _ => rfl | 6, _ => rfl, r4.of_block (k4.block _ r4.lt (by omega)), owns_kept on k4 fun i hi => by have := (on.lt i hi).1; omega, (bt b2 bw).setCell (Nat.le_refl _) _⟩
  have HF6 : Hid (∀ wn : World, Below w1.heap.size w1 wn → (∃ v, wn.cell? ⟨w.heap.size, 6, none⟩ = some v) ∧ wn.frozen? ⟨w.heap.size, 6, none⟩ = false) := fun wn bw => ⟨⟨_, (HR.out.1.of_block (bw.block _ HR.out.1.lt)).cell (i := 6) (by omega)⟩, (HR.out.1.of_block (bw.block _ HR.out.1.lt)).frozen 6⟩
  cases l with
  | nil =>
    have HZ : Hid ((spoilP []).length = 1 ∧ ints (spoilP []) = [.int .i64 0]) := ⟨rfl, rfl⟩
    have rn := fun w' a' c' => run_append_none (P := Tryz.prog) w' 85 85 3 i0 Tryz.underlying85 hi ⟨w1.heap.size, 0, none⟩ 1 1 (Nat.le_refl _) a' c'
    simp only [List.length_nil] at m6
    obtain ⟨⟨v6, x6⟩, f6⟩ := HF6.out _ bn
    clear hr hcl hi hz0 hz1 hz2
    go_upto_region 12 with fail
    generalize (if c6 = (min (1 : Int) 0).toNat then a6 else Option.map (fun x => x.add (min (1 : Int) 0).toNat) a6) = a9
    generalize c6 - (min (1 : Int) 0).toNat = c9
    go_upto_region 13 with (at_builtin; go_must (refine Lib.wpList_append_run _ rfl _ _ _ _ rfl _ _ rfl rfl _ _ (rn _ _ _) ?_))
    obtain ⟨r4, rg4, o4, b4⟩ := HFin.out _ _ _ bn HOn.out
    rw [show (spoilP []).length = 1 from rfl] at r4 rg4 o4 b4
    generalize (w1.alloc (.cells #[.int .i64 0] 3)).setCell ⟨w.heap.size, 6, none⟩ (.slice (some ⟨w1.heap.size, 0, none⟩) 1 1) = w4 at r4 rg4 o4 b4 ⊢
    clear m0 m6 x6 f6
    have m0 := r4.cell (i := 0) (by omega)
    have m1 := r4.cell (i := 1) (by omega)
    have m2 := r4.cell (i := 2) (by omega)
    have m3 := r4.cell (i := 3) (by omega)
    have m4 := r4.cell (i := 4) (by omega)
    have m5 := r4.cell (i := 5) (by omega)
    have m6 := r4.cell (i := 6) (by omega)
    have n0 := rg4.cell (i := 0) (by omega)
    have n1 := rg4.cell (i := 1) (by omega)
    have n2 := rg4.cell (i := 2) (by omega)
    have n3 := rg4.cell (i := 3) (by omega)
    have n4 := rg4.cell (i := 4) (by omega)
    have n5 := rg4.cell (i := 5) (by omega)
    have n6 := rg4.cell (i := 6) (by omega)
    have fg := rg4.frozen
    simp only [cell7] at m0 m1 m2 m3 m4 m5 m6 n0 n1 n2 n3 n4 n5 n6
    have HG : Hid (w4.rowIs (w.heap.size + 1) 87 7 (cell7 0 0 0 0 0 (.slice none 0 0) (.slice none 0 0)) ∧ w4.ownsRow w1.heap.size 3 1 (.slice (some ⟨w1.heap.size, 0, none⟩) 1 1) 1 [.int .i64 0] ∧ Below w.heap.size w w4) := ⟨rg4, o4, b4⟩
    clear r4 rg4 o4 b4 HFin HF6 HOn bn rn
    go_wp2_with fail
    refine bodyPost_ret (ret_spoil _ rfl (put7_row HG.out.1 _ _ _ _ _ _ _)) rfl ?_
    have kp := fun x0 x1 x2 x3 x4 x5 x6 => put7_kept w4 (w.heap.size + 1) x0 x1 x2 x3 x4 x5 x6
    refine ⟨some ⟨w1.heap.size, 0, none⟩, 1, congrArg Ending.returned (HV.out _ _).symm, owns_kept (owns_base HG.out.2.1 (by omega)) (kp _ _ _ _ _ _ _) (fun i hi => by have := (HG.out.2.1.lt i hi).1; omega), HG.out.2.2.trans ((kp _ _ _ _ _ _ _).below (fun i hi => by rw [hi]; omega) HG.out.2.2.size)⟩
  | cons x l =>
    have HZ : Hid ((spoilP (x :: l)).length = 1 + l.length ∧ ints (spoilP (x :: l)) = [.int .i64 0] ++ ints l) := ⟨by show (0 :: l).length = _; rw [List.length_cons]; omega, rfl⟩
    have hN : (x :: l).length = l.length + 1 := rfl
    obtain ⟨⟨v6, x6⟩, f6⟩ := HF6.out _ bn
    obtain ⟨g6, o6, ha6, hc6⟩ := hr.2.2 (by rw [hN]; omega)
    subst ha6
    have hr2 : ∀ j u, (ints l)[j]? = some u → w1.cell? ⟨g6, o6 + 1 + j, none⟩ = some u := fun j u hj => by
      have := hc6 (j + 1) u (by simpa [ints] using hj)
      rw [show o6 + 1 + j = o6 + (j + 1) by omega]
      exact this
    have mn : min (1 : Int) (((x :: l).length : Nat) : Int) = 1 := by rw [hN]; omega
    rw [hN] at m6 hcl hl
    have mn2 : min (1 : Int) ((l.length + 1 : Nat) : Int) = 1 := by omega
    have mn3 : min (1 : Int) ((l.length : Int) + 1) = 1 := by omega
    have hLl : (ints l).length = l.length := by simp [ints]
    clear hr hc6 mn hN
    go_upto_region 12 with fail
    by_cases hL : l.length = 0
    · obtain rfl : l = [] := List.length_eq_zero_iff.1 hL
      have rn := fun w' a' c' => run_append_none (P := Tryz.prog) w' 85 85 3 i0 Tryz.underlying85 hi ⟨w1.heap.size, 0, none⟩ 1 1 (Nat.le_refl _) a' c'
      rw [List.length_nil]
      generalize (if c6 = 1 then some (⟨g6, o6, none⟩ : Addr) else some ⟨g6, o6 + 1, none⟩) = a9
      generalize c6 - 1 = c9
      clear hcl hi hz0 hz1 hz2 hL hr2 mn2 mn3 hLl hl
      go_upto_region 13 with (at_builtin; go_must (refine Lib.wpList_append_run _ rfl _ _ _ _ rfl _ _ rfl rfl _ _ (rn _ _ _) ?_))
      obtain ⟨r4, rg4, o4, b4⟩ := HFin.out _ _ _ bn HOn.out
      rw [show (spoilP [x]).length = 1 from rfl] at r4 rg4 o4 b4
      generalize (w1.alloc (.cells #[.int .i64 0] 3)).setCell ⟨w.heap.size, 6, none⟩ (.slice (some ⟨w1.heap.size, 0, none⟩) 1 1) = w4 at r4 rg4 o4 b4 ⊢
      clear m0 m6 x6 f6
      have m0 := r4.cell (i := 0) (by omega)
      have m1 := r4.cell (i := 1) (by omega)
      have m2 := r4.cell (i := 2) (by omega)
      have m3 := r4.cell (i := 3) (by omega)
      have m4 := r4.cell (i := 4) (by omega)
      have m5 := r4.cell (i := 5) (by omega)
      have m6 := r4.cell (i := 6) (by omega)
      have n0 := rg4.cell (i := 0) (by omega)
      have n1 := rg4.cell (i := 1) (by omega)
      have n2 := rg4.cell (i := 2) (by omega)
      have n3 := rg4.cell (i := 3) (by omega)
      have n4 := rg4.cell (i := 4) (by omega)
      have n5 := rg4.cell (i := 5) (by omega)
      have n6 := rg4.cell (i := 6) (by omega)
      have fg := rg4.frozen
      simp only [cell7] at m0 m1 m2 m3 m4 m5 m6 n0 n1 n2 n3 n4 n5 n6
      have HG : Hid (w4.rowIs (w.heap.size + 1) 87 7 (cell7 0 0 0 0 0 (.slice none 0 0) (.slice none 0 0)) ∧ w4.ownsRow w1.heap.size 3 1 (.slice (some ⟨w1.heap.size, 0, none⟩) 1 1) 1 [.int .i64 0] ∧ Below w.heap.size w w4) := ⟨rg4, o4, b4⟩
      clear r4 rg4 o4 b4 HFin HF6 HOn bn rn
      go_wp2_with fail
      refine bodyPost_ret (ret_spoil _ rfl (put7_row HG.out.1 _ _ _ _ _ _ _)) rfl ?_
      have kp := fun x0 x1 x2 x3 x4 x5 x6 => put7_kept w4 (w.heap.size + 1) x0 x1 x2 x3 x4 x5 x6
      refine ⟨some ⟨w1.heap.size, 0, none⟩, 1, congrArg Ending.returned (HV.out _ _).symm, owns_kept (owns_base HG.out.2.1 (by omega)) (kp _ _ _ _ _ _ _) (fun i hi => by have := (HG.out.2.1.lt i hi).1; omega), HG.out.2.2.trans ((kp _ _ _ _ _ _ _).below (fun i hi => by rw [hi]; omega) HG.out.2.2.size)⟩
    · have hc1 : c6 ≠ 1 := by omega
      rw [if_neg hc1]
      have hnews : ∀ j u, (ints l)[j]? = some u → (w1.alloc (.cells #[.int .i64 0] 3)).cell? ((⟨g6, o6 + 1, none⟩ : Addr).add j) = some u := fun j u hj => by
        rw [show (⟨g6, o6 + 1, none⟩ : Addr).add j = ⟨g6, o6 + 1 + j, none⟩ by unfold Addr.add; split <;> simp_all]
        exact Lists.cell_below bn (hr2 j u hj)
      have hones : ∀ u ∈ ints l, u.oneCell' = true := fun u hu => by
        obtain ⟨y, _, rfl⟩ := List.mem_map.1 hu
        rfl
      have HZ1 : Hid ((spoilP (x :: l)).length = 1 + l.length) := HZ.out.1
      generalize c6 - 1 = c9
      clear hcl hr2 mn2 mn3 hc1 x6 f6
      go_upto_region 13 with (at_builtin; go_must (refine wpList_append_own _ rfl (.tmp 38) (.tmp 39) 85 rfl w1.heap.size 3 i0 (.int .i64 0) 1 8 Tryz.underlying85 hi hz0 hz1 hz2 rfl (by decide) (.slice (some ⟨w1.heap.size, 0, none⟩) 1 1) 1 [.int .i64 0] rfl HOn.out ⟨g6, o6 + 1, none⟩ l.length c9 (ints l) rfl (by rw [hLl, Nat.mul_one]) hnews hones (by unfold maxLen; omega) (by omega) (by simp) ?_); intro v1 wn on gn _; obtain ⟨an, cn, rfl, hrn, _⟩ := owns_row on; have bw : Below w1.heap.size w1 wn := bn.grown gn bn.size (fun k hk => by simp only [Value.ownBlock, Option.some.injEq] at hk; omega); obtain ⟨⟨v6, x6⟩, f6⟩ := HF6.out _ bw; clear hrn)
      have on2 : wn.ownsRow w1.heap.size 3 1 (.slice an (spoilP (x :: l)).length cn) (spoilP (x :: l)).length (ints (spoilP (x :: l))) := by
        rw [HZ.out.1, HZ.out.2]
        exact on
      obtain ⟨r4, rg4, o4, b4⟩ := HFin.out _ _ _ bw on2
      rw [HZ.out.1] at r4 rg4 b4
      rw [HZ.out.1] at o4
      generalize wn.setCell ⟨w.heap.size, 6, none⟩ (.slice an (1 + l.length) cn) = w4 at r4 rg4 o4 b4 ⊢
      clear m0 m6 x6 f6 on on2 gn
      have m0 := r4.cell (i := 0) (by omega)
      have m1 := r4.cell (i := 1) (by omega)
      have m2 := r4.cell (i := 2) (by omega)
      have m3 := r4.cell (i := 3) (by omega)
      have m4 := r4.cell (i := 4) (by omega)
      have m5 := r4.cell (i := 5) (by omega)
      have m6 := r4.cell (i := 6) (by omega)
      have n0 := rg4.cell (i := 0) (by omega)
      have n1 := rg4.cell (i := 1) (by omega)
      have n2 := rg4.cell (i := 2) (by omega)
      have n3 := rg4.cell (i := 3) (by omega)
      have n4 := rg4.cell (i := 4) (by omega)
      have n5 := rg4.cell (i := 5) (by omega)
      have n6 := rg4.cell (i := 6) (by omega)
      have fg := rg4.frozen
      simp only [cell7] at m0 m1 m2 m3 m4 m5 m6 n0 n1 n2 n3 n4 n5 n6
      have HG : Hid (w4.rowIs (w.heap.size + 1) 87 7 (cell7 0 0 0 0 0 (.slice none 0 0) (.slice none 0 0)) ∧ w4.ownsRow w1.heap.size 3 1 (.slice an (1 + l.length) cn) (1 + l.length) (ints (spoilP (x :: l))) ∧ Below w.heap.size w w4) := ⟨rg4, o4, b4⟩
      clear r4 rg4 o4 b4 HFin HF6 HOn bn bw hnews hones
      go_wp2_with fail
      refine bodyPost_ret (ret_spoil _ rfl (put7_row HG.out.1 _ _ _ _ _ _ _)) rfl ?_
      have kp := fun x0 x1 x2 x3 x4 x5 x6 => put7_kept w4 (w.heap.size + 1) x0 x1 x2 x3 x4 x5 x6
      refine ⟨an, cn, ?_, ?_, HG.out.2.2.trans ((kp _ _ _ _ _ _ _).below (fun i hi => by rw [hi]; omega) HG.out.2.2.size)⟩
      · rw [HV.out, HZ1.out]
      · rw [HZ1.out]
        exact owns_kept (owns_base HG.out.2.1 (by omega)) (kp _ _ _ _ _ _ _) (fun i hi => by have := (HG.out.2.1.lt i hi).1; omega)

theorem root_pos (l : List Entry) : 0 ≤ Mirrors.rootE l ∧ Mirrors.rootE l < 2147483647 := Nums.valid_iff.1 (Serves.root_valid l)

/-- lists of two kinds lie in two blocks -/
theorem apart {w : World} {base : Nat} {v5 v6 : Value} {n5 n6 : Nat} {x5 x6 : List Value} (h5 : w.ownsRow base 65 2 v5 n5 x5) (h6 : w.ownsRow base 3 1 v6 n6 x6) {i : Nat} (e5 : v5.ownBlock = some i) (e6 : v6.ownBlock = some i) : False := by
  rcases h5.2 with ⟨rfl, _⟩ | ⟨g, cap, cur, rfl, _, hg, _⟩
  · simp [Value.ownBlock] at e5
  · rcases h6.2 with ⟨rfl, _⟩ | ⟨g', cap', cur', rfl, _, hg', _⟩
    · simp [Value.ownBlock] at e6
    · simp only [Value.ownBlock, Option.some.injEq] at e5 e6
      subst e5 e6
      rw [hg] at hg'
      simp at hg'

/-- a reply of the log, spoilt -/
theorem spoil_any {d : Desk} (hf : Fine d) {w : World} {v : Value} {base : Nat} (hb : base ≤ w.heap.size) (h : Rep base w v (replyOf d false)) :
    Calls Tryz.prog 60 #[v] w fun e w' => ∃ v', e = .returned v' ∧ Rep base w' v' (replyOf d true) ∧ Below base w w' := by
  obtain ⟨a5, c5, a6, c6, rfl, o5, o6⟩ := h
  by_cases h1 : d.mir.want.what = 1
  · have e1 : replyOf d false = ⟨1, Answers.logH d.log 7 0, [], []⟩ := if_pos h1
    have e2 : replyOf d true = ⟨1, spoilH (Answers.logH d.log 7 0), [], []⟩ := if_pos h1
    rw [e1] at o5 o6 ⊢
    rw [e2]
    have hr := root_pos d.log
    have hv : 0 ≤ (Answers.logH d.log 7 0).root ∧ (Answers.logH d.log 7 0).root < 2 ^ 62 := by
      unfold Answers.logH
      split
      · exact ⟨hr.1, by have := hr.2; show Mirrors.rootE d.log < _; omega⟩
      · decide
    refine (head_any _ a5 c5 a6 c6 w hv.1 hv.2).mono ?_
    rintro e w' ⟨rfl, b⟩
    exact ⟨_, rfl, ⟨a5, c5, a6, c6, rfl, owns_kept o5 (Kept.of_below (fun _ => False) b) fun _ _ q => q, owns_kept o6 (Kept.of_below (fun _ => False) b) fun _ _ q => q⟩, b.mono hb⟩
  · by_cases h2 : d.mir.want.what = 2
    · have e1 : replyOf d false = ⟨2, Heads.zero, Runs.pageOf d, []⟩ := by unfold Runs.replyOf; rw [if_neg h1, if_pos h2]; rfl
      have e2 : replyOf d true = ⟨2, Heads.zero, (Runs.pageOf d).map fun e => (0, e.2), []⟩ := by unfold Runs.replyOf; rw [if_neg h1, if_pos h2]; rfl
      rw [e1] at o5 o6 ⊢
      rw [e2]
      refine (some_any (Runs.pageOf d) a5 c5 a6 c6 w base hb o5).mono ?_
      rintro e w' ⟨rfl, o, b, kf⟩
      refine ⟨_, rfl, ⟨a5, c5, a6, c6, rfl, ?_, ?_⟩, b⟩
      · simp only [List.length_map]
        exact o
      · exact owns_kept o6 kf fun i h6 h5 => apart o5 o6 h5 h6
    · have e1 : replyOf d false = ⟨3, Heads.zero, [], Runs.proofOf d⟩ := by unfold Runs.replyOf; rw [if_neg h1, if_neg h2]; rfl
      have e2 : replyOf d true = ⟨3, Heads.zero, [], spoilP (Runs.proofOf d)⟩ := by unfold Runs.replyOf; rw [if_neg h1, if_neg h2]; rfl
      rw [e1] at o5 o6 ⊢
      rw [e2]
      refine (proof_any (Runs.proofOf d) a5 c5 a6 c6 w base hb (by have := RunLess.proof_le hf h1 h2; omega) o6).mono ?_
      rintro e w' ⟨a, c, rfl, o, b⟩
      exact ⟨_, rfl, ⟨a5, c5, a, c, rfl, owns_kept o5 (Kept.of_below (fun _ => False) b) fun _ _ q => q, o⟩, b.mono hb⟩

end Go.Proofs.YtfpkngpgmllhnaaGreatDoor.WalkRuSpoil

/-
  A line of one word, as package run answers it.
-/
set_option maxRecDepth 100000
namespace Go.Proofs.YtfpkngpgmllhnaaGreatDoor.WalkRuWord
open Go.RowKit
open Keeps (Kept owns_kept owns_row)
open Wides (Wide owns_wide)
open Lists (Row ints bt)
open EntRows (cells)
open Entries (Entry entE)
open WalkMi (Mi)
open Runs (Desk Fine replyOf stepE stepD wantA stateA line)
open RunObj (Se two okS)
open WalkRuAs (Out bad)
open WalkRuAdd (RunLeft left_same)
open WalkRuWanted (Rep)
open WalkHdLib (Tabs)
open WalkSeNum (Syn)
open ReplyRows (RFine)
open MirVals (rv)
open Errs (errv)
open Nums (str)

theorem spoil_len : ∀ p : List Int, (Runs.spoilP p).length ≤ p.length + 1
  | [] => by decide
  | _ :: p => by show (0 :: p).length ≤ _; rw [List.length_cons, List.length_cons]; omega
/-- a reply of the log is one that can be heard -/
theorem reply_fine {d : Desk} (hf : Fine d) (bad : Bool) : RFine (replyOf d bad) := by
  have hl := Runs.few hf
  have hz := WalkRuWanted.sized hf.log
  have hp : ∀ e ∈ Runs.pageOf d, e.2.size ≤ maxLen := fun e he => hz e (List.mem_of_mem_take (List.mem_of_mem_drop he))
  have hpl : (Runs.pageOf d).length ≤ 200 := by unfold Runs.pageOf; rw [List.length_drop, List.length_take]; omega
  unfold Runs.replyOf
  split
  · exact ⟨Nat.zero_le _, Nat.zero_le _, fun e he => by cases he⟩
  · rename_i h1
    split
    · refine ⟨?_, Nat.zero_le _, ?_⟩
      · cases bad with
        | true => show ((Runs.pageOf d).map _).length ≤ _; rw [List.length_map]; omega
        | false => show (Runs.pageOf d).length ≤ _; omega
      · cases bad with
        | true =>
          intro e he
          obtain ⟨x, hx, rfl⟩ := List.mem_map.1 (show e ∈ (Runs.pageOf d).map _ from he)
          exact hp x hx
        | false => exact hp
    · rename_i h2
      have := RunLess.proof_le hf h1 h2
      refine ⟨Nat.zero_le _, ?_, fun e he => by cases he⟩
      cases bad with
      | true => show (Runs.spoilP (Runs.proofOf d)).length ≤ _; have := spoil_len (Runs.proofOf d); omega
      | false => show (Runs.proofOf d).length ≤ _; omega

/-- the mirror hears a reply of the call's own -/
theorem hear_any {w w2 : World} {B b bm : Nat} {F G : Nat → Prop} {d : Desk} {v0 : Value} (h1 : w.rowIs b 74 2 (two v0 (.pointer (some ⟨bm, 0, none⟩)))) (h2 : w.ownsRow B 65 2 v0 d.log.length (cells d.log)) (h3 : Mi w B bm G 7 d.mir) (h4 : v0.ownBlock ≠ some b) (h5 : ∀ k, G k → k ≠ b ∧ v0.ownBlock ≠ some k) (h6 : ∀ k, F k ↔ k = b ∨ v0.ownBlock = some k ∨ G k) (hB : B ≤ b) (hf : Fine d) (hA : Tabs w2) (q : Below w.heap.size w w2) (bad : Bool) {v : Value} {base : Nat} (hb : w.heap.size ≤ base) (hr : Rep base w2 v (replyOf d bad)) :
    Calls Tryz.prog 58 #[.pointer (some ⟨bm, 0, none⟩), v] w2 fun e w' => e = .returned (errv (stepE d bad)) ∧ RunLeft w w' B b F (stepD d bad) := by
  obtain ⟨a5, c5, a6, c6, rfl, o5, o6⟩ := hr
  have hm : Mi w2 B bm G 7 d.mir := h3.kept (Kept.of_below (fun _ => False) q) fun _ _ z => z
  obtain ⟨_, hw5⟩ := Wide.of_owns o5
  obtain ⟨x6, y6, e6, hr6, _⟩ := owns_row o6
  obtain ⟨rfl, rfl⟩ : a6 = x6 ∧ c6 = y6 := by simpa using e6
  have ap : ∀ (p : Addr), base ≤ p.block → ¬ G p.block := fun p hp hg => by have := (h3.foot _ hg).2; omega
  refine (WalkMi.hear_any hm hA hf.mir (replyOf d bad) (reply_fine hf bad) a5 c5 a6 c6 hw5 hr6 (fun p _ hp => ap p (Wides.owns_fresh o5 p hp)) (fun p _ hp => ap p (Wides.owns_fresh o6 p hp))).mono ?_
  rintro e w' ⟨rfl, ⟨G', m1, m2⟩, k⟩
  refine ⟨rfl, ?_⟩
  have k0 : Kept G w w' := (Kept.of_below G q).trans k fun i hi => .inl hi
  obtain ⟨F', s1, s2⟩ := RunObj.se_mir h1 h2 h4 h5 hB k0 m1 (fun i hi => (m2 i hi).imp id fun z => Nat.le_trans q.size z)
  exact ⟨⟨F', s1, fun i hi => (s2 i hi).imp (h6 i).2 id⟩, k0.mono fun i hi => (h6 i).2 (.inr (.inr hi))⟩

/-- a line of one word -/
def wordA (d : Desk) (s : List UInt8) : List UInt8 × Desk := if s = Runs.wWant then (wantA d, d) else if s = Runs.wStep then (Runs.tellE (stepE d false), stepD d false) else if s = Runs.badT then (Runs.tellE (stepE d true), stepD d true) else if s = Runs.wState then (stateA d, d) else (Runs.badT, d)
theorem beq_yes {s : ByteArray} {l : List UInt8} (h : s.data.toList = l) : (s.toList == l) = true := by rw [beq_iff_eq, ByteArray.toList_eq]; exact h
theorem beq_no {s : ByteArray} {l : List UInt8} (h : s.data.toList ≠ l) : (s.toList == l) = false := by rw [beq_eq_false_iff_ne, ByteArray.toList_eq]; exact h

set_option maxHeartbeats 8000000 in
theorem word_any {w : World} {B b : Nat} {F : Nat → Prop} {d : Desk} (h : Se w B b F d) (hf : Fine d) (hA : Tabs w) (s : ByteArray) :
    Calls Tryz.prog 33 #[.pointer (some ⟨b, 0, none⟩), .string s] w fun e w' => ∃ t ev, e = .returned (.tuple #[.string t, ev]) ∧ Out t ev (wordA d s.data.toList).1 ∧ RunLeft w w' B b F (wordA d s.data.toList).2 := by
  have HSe : Hid (Se w B b F d) := h
  have cR := RunObj.refuse_any
  by_cases h1 : s.data.toList = Runs.wWant
  · have HV : Hid (wordA d s.data.toList = (wantA d, d)) := if_pos h1
    have cW := WalkRuWant.want_any h hf.mir hA
    have q1 := beq_yes h1
    unfold Runs.wWant at q1
    clear h hf hA h1 cR
    go_enter Tryz.func33, Tryz.ntmps33
    go_wp2_with fail
    refine cW.mono ?_
    rintro e w1 ⟨rfl, b1⟩
    have HB : Hid (Below w.heap.size w w1) := b1
    clear cW b1
    go_wp2_with fail
    go_ret2
    refine ⟨_, _, rfl, ?_⟩
    rw [HV.out]
    exact ⟨.inl ⟨rfl, rfl⟩, left_same HSe.out HB.out⟩
  have n1 := beq_no h1
  unfold Runs.wWant at n1
  by_cases h2 : s.data.toList = Runs.wStep
  · have HV : Hid (wordA d s.data.toList = (Runs.tellE (stepE d false), stepD d false)) := by show _ = _; unfold wordA; rw [if_neg h1, if_pos h2]
    have q2 := beq_yes h2
    unfold Runs.wStep at q2
    obtain ⟨bm, v0, G, r1, r2, r3, r4, r5, r6⟩ := h.core
    have c1 : w.cell? ⟨b, 1, none⟩ = some (.pointer (some ⟨bm, 0, none⟩)) := r1.cell (i := 1) (by omega)
    have HW : Hid (∀ w', Below w.heap.size w w' → Calls Tryz.prog 59 #[.pointer (some ⟨b, 0, none⟩)] w' fun e w2 => ∃ v, e = .returned v ∧ w2.cell? ⟨b, 1, none⟩ = some (.pointer (some ⟨bm, 0, none⟩)) ∧ Hid (Calls Tryz.prog 58 #[.pointer (some ⟨bm, 0, none⟩), v] w2 fun e w3 => e = .returned (errv (stepE d false)) ∧ Hid (RunLeft w w3 B b F (stepD d false)))) := fun w' q => by
      refine (WalkRuWanted.wanted_any (h.below q) hf (hA.below q)).mono ?_
      rintro e w2 ⟨v, rfl, hr, b2⟩
      have q2 := bt q b2
      exact ⟨v, rfl, Lists.cell_below q2 c1, hear_any r1 r2 r3 r4 r5 r6 h.above hf (hA.below q2) q2 false q.size hr⟩
    have HO := RunObj.out_ok (stepE d false) (RunLess.step_le d false)
    have cT := fun w' => RunObj.taken_any (stepE d false) w'
    have HOut : Hid (Out (okS (stepE d false)) (errv (stepE d false)) (Runs.tellE (stepE d false))) := HO
    generalize okS (stepE d false) = TT at HOut cT
    generalize errv (stepE d false) = EE at HOut cT HW
    have hbl := r1.lt
    clear h hf hA h1 h2 cR r1 r2 r3 r4 r5 r6 HO
    go_enter Tryz.func33, Tryz.ntmps33
    go_upto_region 5 with fail
    go_region_with (first | (go_at_call 59; refine (HW.out _ (Below.refl _ _).drew).mono ?_; rintro e w2 ⟨v, rfl, c2, HH⟩) | (go_at_call 58; refine HH.out.mono ?_; rintro e w3 ⟨rfl, HL⟩) | (go_at_call 57; refine (cT _).mono ?_; rintro e w4 ⟨rfl, h4⟩; rw [h4]; clear h4 w4))
    all_goals
      simp [Act.put]
      go_wp2_with fail
      go_ret2
      refine ⟨_, _, rfl, ?_⟩
      rw [HV.out]
      exact ⟨HOut.out, HL.out⟩
  have n2 := beq_no h2
  unfold Runs.wStep at n2
  by_cases h3 : s.data.toList = Runs.badT
  · have HV : Hid (wordA d s.data.toList = (Runs.tellE (stepE d true), stepD d true)) := by show _ = _; unfold wordA; rw [if_neg h1, if_neg h2, if_pos h3]
    have q2 := beq_yes h3
    unfold Runs.badT at q2
    obtain ⟨bm, v0, G, r1, r2, r3, r4, r5, r6⟩ := h.core
    have c1 : w.cell? ⟨b, 1, none⟩ = some (.pointer (some ⟨bm, 0, none⟩)) := r1.cell (i := 1) (by omega)
    have HW : Hid (∀ w', Below w.heap.size w w' → Calls Tryz.prog 59 #[.pointer (some ⟨b, 0, none⟩)] w' fun e w2 => ∃ v, e = .returned v ∧ Hid (Calls Tryz.prog 60 #[v] w2 fun e w3 => ∃ v2, e = .returned v2 ∧ w3.cell? ⟨b, 1, none⟩ = some (.pointer (some ⟨bm, 0, none⟩)) ∧ Hid (Calls Tryz.prog 58 #[.pointer (some ⟨bm, 0, none⟩), v2] w3 fun e w4 => e = .returned (errv (stepE d true)) ∧ Hid (RunLeft w w4 B b F (stepD d true)))) ∧ w2.cell? ⟨b, 1, none⟩ = some (.pointer (some ⟨bm, 0, none⟩))) := fun w' q => by
      refine (WalkRuWanted.wanted_any (h.below q) hf (hA.below q)).mono ?_
      rintro e w2 ⟨v, rfl, hr, b2⟩
      have q2 := bt q b2
      refine ⟨v, rfl, ?_, Lists.cell_below q2 c1⟩
      refine (WalkRuSpoil.spoil_any hf b2.size hr).mono ?_
      rintro e w3 ⟨v2, rfl, hr2, b3⟩
      have q3 : Below w.heap.size w w3 := q2.trans (b3.mono q.size)
      exact ⟨v2, rfl, Lists.cell_below q3 c1, hear_any r1 r2 r3 r4 r5 r6 h.above hf (hA.below q3) q3 true q.size hr2⟩
    have HO := RunObj.out_ok (stepE d true) (RunLess.step_le d true)
    have cT := fun w' => RunObj.taken_any (stepE d true) w'
    have HOut : Hid (Out (okS (stepE d true)) (errv (stepE d true)) (Runs.tellE (stepE d true))) := HO
    generalize okS (stepE d true) = TT at HOut cT
    generalize errv (stepE d true) = EE at HOut cT HW
    have hbl := r1.lt
    clear h hf hA h1 h2 h3 cR r1 r2 r3 r4 r5 r6 HO
    go_enter Tryz.func33, Tryz.ntmps33
    go_upto_region 7 with fail
    go_region_with (first | (go_at_call 59; refine (HW.out _ (Below.refl _ _).drew).mono ?_; rintro e w2 ⟨v, rfl, HS, c2⟩) | (go_at_call 60; refine HS.out.mono ?_; rintro e w5 ⟨v2, rfl, c5, HH⟩) | (go_at_call 58; refine HH.out.mono ?_; rintro e w3 ⟨rfl, HL⟩) | (go_at_call 57; refine (cT _).mono ?_; rintro e w4 ⟨rfl, h4⟩; rw [h4]; clear h4 w4))
    all_goals
      simp [Act.put]
      go_wp2_with fail
      go_ret2
      refine ⟨_, _, rfl, ?_⟩
      rw [HV.out]
      exact ⟨HOut.out, HL.out⟩
  have n3 := beq_no h3
  unfold Runs.badT at n3
  by_cases h4 : s.data.toList = Runs.wState
  · have HV : Hid (wordA d s.data.toList = (stateA d, d)) := by show _ = _; unfold wordA; rw [if_neg h1, if_neg h2, if_neg h3, if_pos h4]
    have cW := WalkRuWant.state_any h hf.mir hA
    have q4 := beq_yes h4
    unfold Runs.wState at q4
    clear h hf hA h1 h2 h3 h4 cR
    go_enter Tryz.func33, Tryz.ntmps33
    go_wp2_with fail
    refine cW.mono ?_
    rintro e w1 ⟨rfl, b1⟩
    have HB : Hid (Below w.heap.size w w1) := b1
    clear cW b1
    go_wp2_with fail
    go_ret2
    refine ⟨_, _, rfl, ?_⟩
    rw [HV.out]
    exact ⟨.inl ⟨rfl, rfl⟩, left_same HSe.out HB.out⟩
  have n4 := beq_no h4
  unfold Runs.wState at n4
  have HV : Hid (wordA d s.data.toList = (Runs.badT, d)) := by show _ = _; unfold wordA; rw [if_neg h1, if_neg h2, if_neg h3, if_neg h4]
  clear h hf hA h1 h2 h3 h4
  go_enter Tryz.func33, Tryz.ntmps33
  go_wp2_with fail
  refine (cR _).mono ?_
  rintro e w9 ⟨rfl, h9⟩
  rw [h9]
  clear h9 w9 cR
  go_wp2_with fail
  go_ret2
  refine ⟨_, _, rfl, ?_⟩
  rw [HV.out]
  exact ⟨.inr (.inr ⟨rfl, rfl⟩), left_same HSe.out (Below.refl _ _)⟩

end Go.Proofs.YtfpkngpgmllhnaaGreatDoor.WalkRuWord

/-
  A line, as package run answers it: its text, and what it leaves.
-/
set_option maxRecDepth 100000
namespace Go.Proofs.YtfpkngpgmllhnaaGreatDoor.WalkRuLine
open Go.RowKit
open Keeps (Kept)
open Wides (Wide)
open Lists (bt)
open EntRows (cells)
open Runs (Desk Fine line addA askA keyA)
open RunObj (Se)
open WalkRuAs (Out bad)
open WalkRuAdd (RunLeft left_same)
open WalkRuWord (wordA beq_yes beq_no)
open WalkHdLib (Tabs)
open WalkSeNum (Syn)
open Answers (answer)
open Errs (errv errv0 errv_pos)
open Nums (str)

theorem line_none {d : Desk} {s : List UInt8} (h : Runs.word s = none) : line d s = wordA d s := by unfold Runs.line; rw [h]; rfl
/-- what came of it, told -/
theorem out_of {t : List UInt8} {e : Nat} (he : e ≤ 9) (h0 : e ≠ 0 → True) : Out (str t) (errv e) (if e = 0 then t else Runs.name e) := by
  by_cases h : e = 0
  · subst h
    exact .inl ⟨rfl, rfl⟩
  · rw [if_neg h, errv_pos e h]
    exact .inr (.inl ⟨e, h, he, rfl, rfl⟩)

set_option maxHeartbeats 8000000 in
theorem line_any {w : World} {B b : Nat} {F : Nat → Prop} {d : Desk} (h : Se w B b F d) (hf : Fine d) (hB : B ≤ w.heap.size) (hA : Tabs w) (hS : Syn w) (s : ByteArray) (hs : s.size ≤ 140737488351232) :
    Calls Tryz.prog 14 #[.pointer (some ⟨b, 0, none⟩), .string s] w fun e w' => ∃ t ev, e = .returned (.tuple #[.string t, ev]) ∧ Out t ev (line d s.data.toList).1 ∧ RunLeft w w' B b F (line d s.data.toList).2 := by
  have HSe : Hid (Se w B b F d) := h
  have HT : Hid (∀ w', Below w.heap.size w w' → Tabs w' ∧ Syn w') := fun w' q => ⟨hA.below q, hS.below q⟩
  have HFi : Hid (Fine d) := hf
  have cC := WalkRuCut.cut_any s 32 w hs
  have cR := RunObj.refuse_any
  have lift : ∀ {w1 w2 : World} {d' : Desk}, Below w.heap.size w w1 → RunLeft w1 w2 B b F d' → RunLeft w w2 B b F d' := fun q ⟨⟨F', q1, q2⟩, q3⟩ => ⟨⟨F', q1, fun i hi => (q2 i hi).imp id fun z => Nat.le_trans q.size z⟩, (Kept.of_below F q).trans q3 fun i hi => .inl hi⟩
  have HLi : Hid (∀ {w1 w2 : World} {d' : Desk}, Below w.heap.size w w1 → RunLeft w1 w2 B b F d' → RunLeft w w2 B b F d') := lift
  clear lift
  cases hw : Runs.word s.data.toList with
  | none =>
    have HV : Hid (line d s.data.toList = wordA d s.data.toList) := line_none hw
    rw [WalkRuCut.cut_none (Runs.word_no hw)] at cC
    clear h hf hA hS hw cR
    go_enter Tryz.func14, Tryz.ntmps14
    go_wp2_with fail
    refine cC.mono ?_
    rintro e w1 ⟨rfl, b1⟩
    have HB1 : Hid (Below w.heap.size w w1) := b1
    have cW := WalkRuWord.word_any (HSe.out.below b1) HFi.out (HT.out w1 b1).1 s
    clear cC b1
    go_wp2_with fail
    refine cW.mono ?_
    rintro e w2 ⟨t, ev, rfl, ho, hl⟩
    have HO : Hid (Out t ev (line d s.data.toList).1 ∧ RunLeft w w2 B b F (line d s.data.toList).2) := by
      show _ ∧ _
      rw [HV.out]
      exact ⟨ho, HLi.out HB1.out hl⟩
    clear cW ho hl
    go_wp2_with fail
    go_ret2
    exact ⟨t, ev, rfl, HO.out⟩
  | some p =>
    obtain ⟨a, t⟩ := p
    obtain ⟨es, ha⟩ := Runs.word_some hw
    rw [WalkRuCut.cut_some es ha] at cC
    have hts : (str t).size ≤ 140737488351232 := by
      have : s.size = a.length + 1 + t.length := by rw [← show s.data.toList.length = s.size from Array.length_toList, es, List.length_append, List.length_cons]; omega
      rw [Nums.str_size]
      omega
    have HL : Hid (line d s.data.toList = if a = Runs.wAdd then addA d t else if a = Runs.wAsk then (askA d t, d) else if a = Runs.wKey then (keyA t, d) else (Runs.badT, d)) := by
      show _ = _
      unfold Runs.line
      rw [hw]
    have hla : (str a).data.toList = a := rfl
    clear h hf hA hS hw es ha
    by_cases h1 : a = Runs.wAdd
    · have q1 := beq_yes (s := str a) h1
      unfold Runs.wAdd at q1
      have HV : Hid (line d s.data.toList = addA d t) := by show _ = _; rw [HL.out, if_pos h1]
      generalize str a = A at cC q1
      clear h1 hla cR
      go_enter Tryz.func14, Tryz.ntmps14
      go_wp2_with fail
      refine cC.mono ?_
      rintro e w1 ⟨rfl, b1⟩
      have HB1 : Hid (Below w.heap.size w w1) := b1
      have cW := WalkRuAdd.add_any (HSe.out.below b1) HFi.out (Nat.le_trans hB b1.size) (HT.out w1 b1).1 (HT.out w1 b1).2 (str t) hts
      clear cC b1
      go_wp2_with fail
      refine cW.mono ?_
      rintro e w2 ⟨t2, ev, rfl, ho, hl⟩
      have HO : Hid (Out t2 ev (line d s.data.toList).1 ∧ RunLeft w w2 B b F (line d s.data.toList).2) := by
        show _ ∧ _
        rw [HV.out]
        exact ⟨ho, HLi.out HB1.out hl⟩
      clear cW ho hl
      go_wp2_with fail
      go_ret2
      exact ⟨t2, ev, rfl, HO.out⟩
    have n1 := beq_no (s := str a) h1
    unfold Runs.wAdd at n1
    by_cases h2 : a = Runs.wAsk
    · have q2 := beq_yes (s := str a) h2
      unfold Runs.wAsk at q2
      have HV : Hid (line d s.data.toList = (askA d t, d)) := by show _ = _; rw [HL.out, if_neg h1, if_pos h2]
      generalize str a = A at cC n1 q2
      clear h1 h2 hla cR
      go_enter Tryz.func14, Tryz.ntmps14
      go_wp2_with fail
      refine cC.mono ?_
      rintro e w1 ⟨rfl, b1⟩
      have HB1 : Hid (Below w.heap.size w w1) := b1
      obtain ⟨al, cl, c0, hwl⟩ := WalkRuWanted.log_any (HSe.out.below b1)
      have cW := WalkSeAns.answer_any d.log al d.log.length cl 7 0 (str t) w1 hwl (WalkRuWanted.sized HFi.out.log) hts (HT.out w1 b1).1 (HT.out w1 b1).2
      rw [Nums.str_data] at cW
      have hbl := (HSe.out.below b1).lt
      have HO1 : Hid (Out (str (answer d.log 7 0 t).1) (errv (answer d.log 7 0 t).2) (askA d t)) := out_of (RunLess.answer_le _ _ _ _) fun _ => trivial
      generalize str (answer d.log 7 0 t).1 = T1 at cW HO1
      generalize errv (answer d.log 7 0 t).2 = E1 at cW HO1
      clear cC b1 hwl
      go_wp2_with fail
      refine cW.mono ?_
      rintro e w2 ⟨rfl, b2⟩
      have HB2 : Hid (Below w.heap.size w w2) := bt HB1.out b2
      clear cW b2 c0
      go_wp2_with fail
      go_ret2
      refine ⟨_, _, rfl, ?_⟩
      rw [HV.out]
      exact ⟨HO1.out, left_same HSe.out HB2.out⟩
    have n2 := beq_no (s := str a) h2
    unfold Runs.wAsk at n2
    by_cases h3 : a = Runs.wKey
    · have q3 := beq_yes (s := str a) h3
      unfold Runs.wKey at q3
      have HV : Hid (line d s.data.toList = (keyA t, d)) := by show _ = _; rw [HL.out, if_neg h1, if_neg h2, if_pos h3]
      generalize str a = A at cC n1 n2 q3
      clear h1 h2 h3 hla cR
      have cW := fun w' => WalkKyBits.bits_any (str t) w' (by unfold maxLen; omega)
      have HO1 : Hid (Out (str (KeyTrees.bitsV (str t))) (errv (Stores.keyE (str t))) (keyA t)) := by
        show Out _ _ _
        have he := RunLess.key_le (str t)
        have hk : keyA t = if Stores.keyE (str t) = 0 then KeyTrees.bitsV (str t) else Runs.name (Stores.keyE (str t)) := by
          unfold Runs.keyA KeyTrees.bitsV
          split <;> rfl
        rw [hk]
        exact out_of he fun _ => trivial
      generalize str (KeyTrees.bitsV (str t)) = T1 at cW HO1
      generalize errv (Stores.keyE (str t)) = E1 at cW HO1
      go_enter Tryz.func14, Tryz.ntmps14
      go_wp2_with fail
      refine cC.mono ?_
      rintro e w1 ⟨rfl, b1⟩
      have HB1 : Hid (Below w.heap.size w w1) := b1
      clear cC b1
      go_wp2_with fail
      refine (cW _).mono ?_
      rintro e w2 ⟨rfl, b2⟩
      have HB2 : Hid (Below w.heap.size w w2) := bt HB1.out b2
      clear cW b2
      go_wp2_with fail
      go_ret2
      refine ⟨_, _, rfl, ?_⟩
      rw [HV.out]
      exact ⟨HO1.out, left_same HSe.out HB2.out⟩
    have n3 := beq_no (s := str a) h3
    unfold Runs.wKey at n3
    have HV : Hid (line d s.data.toList = (Runs.badT, d)) := by show _ = _; rw [HL.out, if_neg h1, if_neg h2, if_neg h3]
    generalize str a = A at cC n1 n2 n3
    clear h1 h2 h3 hla
    go_enter Tryz.func14, Tryz.ntmps14
    go_wp2_with fail
    refine cC.mono ?_
    rintro e w1 ⟨rfl, b1⟩
    have HB1 : Hid (Below w.heap.size w w1) := b1
    clear cC b1
    go_wp2_with fail
    refine (cR _).mono ?_
    rintro e w9 ⟨rfl, h9⟩
    rw [h9]
    clear h9 w9 cR
    go_wp2_with fail
    go_ret2
    refine ⟨_, _, rfl, ?_⟩
    rw [HV.out]
    exact ⟨.inr (.inr ⟨rfl, rfl⟩), left_same HSe.out HB1.out⟩

end Go.Proofs.YtfpkngpgmllhnaaGreatDoor.WalkRuLine

