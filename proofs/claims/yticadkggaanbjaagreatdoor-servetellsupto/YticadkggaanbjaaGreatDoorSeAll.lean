/-
  What the program's serve.Number returns of any text, and serve.wants: the map of the words that may be asked.
-/
import Derived.Test.YticadkggaanbjaaGreatDoorSeNums
import Derived.Test.YticadkggaanbjaaGreatDoorWalkHdLib
import Derived.Maps.Own
import Derived.Maps.OwnOps
import Derived.Maps.OwnSet
import Derived.LaidLaws
import Derived.Stop.LaidErr
import Derived.Test.YticadkggaanbjaaGreatDoorShelf
import Derived.Test.YticadkggaanbjaaGreatDoorHdWords
import Derived.Test.YticadkggaanbjaaGreatDoorListRows
import Derived.Test.YticadkggaanbjaaGreatDoorRows
import Derived.WalkKit
import Derived.Lib.Walk
import Derived.Lib.Strings
import Derived.Laws.Strings3
import Derived.Laws.DeepStrings4
import Derived.Deep.OwnRows
import Derived.Deep.CutBlock
import Derived.Lib.IndexBytes
import Derived.Test.YticadkggaanbjaaGreatDoorErrs
import Derived.Deep.RegionHeld3
import Derived.Deep.DeepMust
import Derived.Maps.AppendAt
import Derived.Test.YticadkggaanbjaaGreatDoorWalkSe
import Derived.Test.YticadkggaanbjaaGreatDoorWalkTile
import Derived.Shelf.Abstract
import Derived.Test.YticadkggaanbjaaGreatDoorProofMake
import Derived.Test.YticadkggaanbjaaGreatDoorGrowMk
namespace Go.Proofs.YticadkggaanbjaaGreatDoor.WalkSeNum
open Go.RowKit Go.Maps
open Nums (str)
open Lists (bt)
open Decimals (dec)
open Answers (num wHead wEntry wLeaf wProof wGrow wTile)
open WalkHdLib (Tabs)

/-- the library's variable ErrSyntax holds an error -/
def Syn (w : World) : Prop := ∃ tp p, w.var? Tryz.prog "strconv.ErrSyntax" = some #[.iface tp p]
theorem gSyn : Tryz.prog.globalNamed "strconv.ErrSyntax" = some 4 := by kernel_rfl
theorem Syn.below {w w' : World} (h : Syn w) (b : Below w.heap.size w w') : Syn w' := by
  obtain ⟨tp, p, h1⟩ := h
  refine ⟨tp, p, ?_⟩
  unfold World.var? at h1 ⊢
  rw [gSyn] at h1 ⊢
  simp only [Option.bind_some] at h1 ⊢
  have hlt : 4 < w.heap.size := by
    rcases Nat.lt_or_ge 4 w.heap.size with h' | h'
    · exact h'
    · rw [Array.getElem?_eq_none h'] at h1
      cases h1
  rw [b.block _ hlt]
  exact h1

/-- what is told of a word: a number, or that it is none -/
def Told (l : List UInt8) (n : Int) (ok : Bool) : Prop := (∃ k : Nat, num l = some k ∧ n = (k : Int) ∧ ok = true) ∨ (num l = none ∧ ok = false)
def Num (l : List UInt8) (w : World) (e : Ending) (w' : World) : Prop := ∃ (n : Int) (ok : Bool), e = .returned (.tuple #[.int .i64 n, .bool ok]) ∧ Told l n ok ∧ Below w.heap.size w w'

set_option maxHeartbeats 4000000 in
theorem number_any (s : ByteArray) (w : World) (hT : Tabs w) (hE : Syn w) :
    Calls Tryz.prog 110 #[.string s] w fun e w' => Num s.data.toList w e w' := by
  have hsz : s.data.toList.length = s.size := Array.length_toList
  by_cases h4 : 4 < s.size
  · have HN : Hid (num s.data.toList = none) := SeNums.num_long (by omega)
    have i1 : (4 : Int) < (s.size : Int) := by omega
    have i2 : (s.size : Int) > 4 := i1
    clear hsz h4
    go_enter Tryz.func110, Tryz.ntmps110
    go_wp2_with fail
    go_ret2
    exact ⟨0, false, rfl, .inr ⟨HN.out, rfl⟩, Below.refl _ _⟩
  · have i1 : ¬ (4 : Int) < (s.size : Int) := by omega
    have i2 : ¬ (s.size : Int) > 4 := i1
    have HT : Hid (∀ w', Below w.heap.size w w' → Tabs w') := fun w' b => hT.below b
    cases ha : Lib.atoi s.data.toList with
    | none =>
      obtain ⟨tp, p, hE⟩ := hE
      have c := Tryz.strconv_Atoi_err_var s (by omega) ha tp p w hE
      have HN : Hid (num s.data.toList = none) := SeNums.num_none ha
      clear ha hE hT HT
      go_enter Tryz.func110, Tryz.ntmps110
      go_wp2_with fail
      refine c.mono ?_
      rintro e w1 ⟨N, rfl, -, -, b1⟩
      have HB : Hid (Below w.heap.size w w1) := b1
      clear b1 c
      go_wp2_with fail
      go_ret2
      exact ⟨0, false, rfl, .inr ⟨HN.out, rfl⟩, HB.out⟩
    | some v =>
      have c := Tryz.strconv_Atoi s v (by omega) ha w
      obtain ⟨v0, v1⟩ := SeNums.atoi_bd ha (by omega)
      by_cases hv : 0 ≤ v
      · have HC : Hid (∀ w', Below w.heap.size w w' → Calls Tryz.prog 112 #[.int .i64 v] w' fun e w'' => e = .returned (.string (str (dec v.toNat))) ∧ Below w'.heap.size w' w'') := fun w' b => WalkHdLib.itoa_any v hv (by omega) w' (HT.out w' b)
        have i3 : ¬ v < 0 := by omega
        by_cases hd : dec v.toNat = s.data.toList
        · have HN : Hid (num s.data.toList = some v.toNat) := SeNums.num_yes (by omega) hd
          have HV : Hid ((v.toNat : Int) = v) := Int.toNat_of_nonneg hv
          have hs : str (dec v.toNat) = s := by rw [hd]; rfl
          rw [hs] at HC
          clear ha hE hT HT hd hs hsz
          go_enter Tryz.func110, Tryz.ntmps110
          go_wp2_with fail
          refine c.mono ?_
          rintro e w1 ⟨rfl, t, b1⟩
          have HB : Hid (Below w.heap.size w w1) := by rw [b1]; exact Lib.bytesWorld_below _ _ _
          clear b1 c
          go_wp2_with fail
          refine (HC.out _ HB.out).mono ?_
          rintro e w2 ⟨rfl, b2⟩
          have HB2 : Hid (Below w.heap.size w w2) := bt HB.out b2
          clear b2 HC
          go_wp2_with fail
          go_ret2
          exact ⟨v, true, rfl, .inl ⟨_, HN.out, HV.out.symm, rfl⟩, HB2.out⟩
        · have HN : Hid (num s.data.toList = none) := SeNums.num_not ha hd
          have hs : ¬ str (dec v.toNat) = s := fun h => hd (by rw [← h]; rfl)
          have hb : ((str (dec v.toNat)).toList == s.toList) = false := by
            rw [beq_eq_false_iff_ne, Nums.str_toList, show s.toList = s.data.toList from Nums.str_toList s.data.toList]
            exact hd
          generalize str (dec v.toNat) = D at HC hs hb
          clear ha hE hT HT hd hsz
          go_enter Tryz.func110, Tryz.ntmps110
          go_wp2_with fail
          refine c.mono ?_
          rintro e w1 ⟨rfl, t, b1⟩
          have HB : Hid (Below w.heap.size w w1) := by rw [b1]; exact Lib.bytesWorld_below _ _ _
          clear b1 c
          go_wp2_with fail
          refine (HC.out _ HB.out).mono ?_
          rintro e w2 ⟨rfl, b2⟩
          have HB2 : Hid (Below w.heap.size w w2) := bt HB.out b2
          clear b2 HC
          go_wp2_with fail
          go_ret2
          exact ⟨0, false, rfl, .inr ⟨HN.out, rfl⟩, HB2.out⟩
      · have HN : Hid (num s.data.toList = none) := SeNums.num_below ha (by omega)
        have i3 : v < 0 := by omega
        clear ha hE hT HT hsz
        go_enter Tryz.func110, Tryz.ntmps110
        go_wp2_with fail
        refine c.mono ?_
        rintro e w1 ⟨rfl, t, b1⟩
        have HB : Hid (Below w.heap.size w w1) := by rw [b1]; exact Lib.bytesWorld_below _ _ _
        clear b1 c
        go_wp2_with fail
        go_ret2
        exact ⟨0, false, rfl, .inr ⟨HN.out, rfl⟩, HB.out⟩

/-! the words -/
theorem law : Keyed Tryz.prog 9 := string_keyed Tryz.underlying9
theorem zeroI (w : World) : (zeroValue 3).run Tryz.prog w = .ok (.int .i64 0) w := by kernel_rfl
abbrev Owns (w : World) (b n : Nat) (D : DataW Unit) : Prop := w.ownsMap Tryz.prog 9 (plainElem Tryz.prog 3) b n D
abbrev put (D : DataW Unit) (k : List UInt8) (n : Int) : DataW Unit := D.put (.string k) (.lit (.int .i64 n))
/-- the six words, and how many numbers each wants -/
def six : DataW Unit := put (put (put (put (put (put (.map []) wHead 0) wEntry 1) wLeaf 1) wProof 2) wGrow 2) wTile 2

theorem step {w : World} {b m : Nat} {D : DataW Unit} (h : Owns w b m D) {k : ByteArray} {n : Int} (hm : m < maxLen) (hk : k.size ≤ 100) (hn : (Lit.int .i64 n).wf = true) :
    ∃ w', (Instr.mapUpdate 155 (.map (some b)) (.string k) (.int .i64 n)).run Tryz.prog w = .ok () w' ∧ Owns w' b (m + 1) (put D k.data.toList n) ∧ w.grownBy w' (some b) :=
  World.ownsMap.update h law Tryz.underlying155 hm (WideMaps.keyOf_string_mk Tryz.underlying9 (by unfold maxLen; omega)) (plainElem_int Tryz.underlying3 hn)

set_option maxHeartbeats 4000000 in
set_option maxRecDepth 100000 in
theorem wants_any (w : World) :
    Calls Tryz.prog 109 #[] w fun e w' => e = .returned (.map (some w.heap.size)) ∧ Owns w' w.heap.size 6 six ∧ Below w.heap.size w w' := by
  have hmm := @run_makeMap Tryz.prog
  have o0 : Owns (w.alloc (.map #[] 0)) w.heap.size 0 (.map []) := World.ownsMap_made _ _ _ _
  have b0 : Below w.heap.size w (w.alloc (.map #[] 0)) := (Below.refl _ _).alloc (Nat.le_refl _) _
  obtain ⟨w1, h1, o1', g1⟩ := step o0 (k := ⟨#[104, 101, 97, 100]⟩) (n := 0) (by unfold maxLen; omega) (by decide) (by decide)
  have o1 : Owns w1 w.heap.size 1 (put (.map []) wHead 0) := o1'
  have b1 := b0.grown g1 b0.size (fun i hi => by cases hi; exact Nat.le_refl _)
  obtain ⟨w2, h2, o2', g2⟩ := step o1 (k := ⟨#[101, 110, 116, 114, 121]⟩) (n := 1) (by unfold maxLen; omega) (by decide) (by decide)
  have o2 : Owns w2 w.heap.size 2 (put (put (.map []) wHead 0) wEntry 1) := o2'
  have b2 := b1.grown g2 b1.size (fun i hi => by cases hi; exact Nat.le_refl _)
  obtain ⟨w3, h3, o3', g3⟩ := step o2 (k := ⟨#[108, 101, 97, 102]⟩) (n := 1) (by unfold maxLen; omega) (by decide) (by decide)
  have o3 : Owns w3 w.heap.size 3 (put (put (put (.map []) wHead 0) wEntry 1) wLeaf 1) := o3'
  have b3 := b2.grown g3 b2.size (fun i hi => by cases hi; exact Nat.le_refl _)
  obtain ⟨w4, h4, o4', g4⟩ := step o3 (k := ⟨#[112, 114, 111, 111, 102]⟩) (n := 2) (by unfold maxLen; omega) (by decide) (by decide)
  have o4 : Owns w4 w.heap.size 4 (put (put (put (put (.map []) wHead 0) wEntry 1) wLeaf 1) wProof 2) := o4'
  have b4 := b3.grown g4 b3.size (fun i hi => by cases hi; exact Nat.le_refl _)
  obtain ⟨w5, h5, o5', g5⟩ := step o4 (k := ⟨#[103, 114, 111, 119]⟩) (n := 2) (by unfold maxLen; omega) (by decide) (by decide)
  have o5 : Owns w5 w.heap.size 5 (put (put (put (put (put (.map []) wHead 0) wEntry 1) wLeaf 1) wProof 2) wGrow 2) := o5'
  have b5 := b4.grown g5 b4.size (fun i hi => by cases hi; exact Nat.le_refl _)
  obtain ⟨w6, h6, o6', g6⟩ := step o5 (k := ⟨#[116, 105, 108, 101]⟩) (n := 2) (by unfold maxLen; omega) (by decide) (by decide)
  have o6 : Owns w6 w.heap.size 6 (put (put (put (put (put (put (.map []) wHead 0) wEntry 1) wLeaf 1) wProof 2) wGrow 2) wTile 2) := o6'
  have b6 := b5.grown g6 b5.size (fun i hi => by cases hi; exact Nat.le_refl _)
  have HO : Hid (Owns w6 w.heap.size 6 six) := o6
  have HB : Hid (Below w.heap.size w w6) := b6
  clear o0 o1 o2 o3 o4 o5 o6 b0 b1 b2 b3 b4 b5 b6 g1 g2 g3 g4 g5 g6 o1' o2' o3' o4' o5' o6'
  go_enter Tryz.func109, Tryz.ntmps109
  go_wp2_with fail
  go_ret
  exact ⟨rfl, HO.out, HB.out⟩

theorem six_is : six = .map [(.string wEntry, .lit (.int .i64 1)), (.string wGrow, .lit (.int .i64 2)), (.string wHead, .lit (.int .i64 0)), (.string wLeaf, .lit (.int .i64 1)), (.string wProof, .lit (.int .i64 2)), (.string wTile, .lit (.int .i64 2))] := by kernel_rfl
theorem six_at (x : List UInt8) : Maps.has six (.string x) = decide (Answers.many x ≠ 0) ∧ six.atKey (.string x) (.lit (.int .i64 0)) = .lit (.int .i64 ((Answers.many x - 1 : Nat) : Int)) := by
  rw [six_is]
  by_cases h1 : x = wHead
  · subst h1
    exact ⟨rfl, rfl⟩
  by_cases h2 : x = wEntry
  · subst h2
    exact ⟨rfl, rfl⟩
  by_cases h3 : x = wLeaf
  · subst h3
    exact ⟨rfl, rfl⟩
  by_cases h4 : x = wProof
  · subst h4
    exact ⟨rfl, rfl⟩
  by_cases h5 : x = wGrow
  · subst h5
    exact ⟨rfl, rfl⟩
  by_cases h6 : x = wTile
  · subst h6
    exact ⟨rfl, rfl⟩
  have hm : Answers.many x = 0 := by
    unfold Answers.many
    rw [if_neg h1, if_neg (by rintro (h | h); exact h2 h; exact h3 h), if_neg (by rintro (h | h | h); exact h4 h; exact h5 h; exact h6 h)]
  have e : ∀ y : List UInt8, x ≠ y → (y == x) = false := fun y h => by rw [beq_eq_false_iff_ne]; exact fun k => h k.symm
  rw [hm]
  constructor
  · simp [Maps.has, Lit.sameKey, e _ h1, e _ h2, e _ h3, e _ h4, e _ h5, e _ h6]
  · simp [DataW.atKey, Lit.sameKey, e _ h1, e _ h2, e _ h3, e _ h4, e _ h5, e _ h6]
/-- a word looked up among the six -/
theorem look_six {w : World} {b : Nat} (h : Owns w b 6 six) (x : ByteArray) (hx : x.size ≤ maxLen) :
    (Instr.lookup 155 (.map (some b)) (.string x) true).run Tryz.prog w = .ok (.tuple #[.int .i64 ((Answers.many x.data.toList - 1 : Nat) : Int), .bool (decide (Answers.many x.data.toList ≠ 0))]) w := by
  obtain ⟨v, ps, hrun, hv⟩ := World.ownsMap.look_ok h law Tryz.underlying155 (zeroI w) (plainElem_int Tryz.underlying3 (by decide)) (WideMaps.keyOf_string_mk Tryz.underlying9 hx)
  obtain ⟨e1, e2⟩ := six_at x.data.toList
  obtain ⟨c, rfl, hc, -⟩ := plainElem_int_inv Tryz.underlying3 hv
  rw [e2] at hc
  rw [hrun, e1]
  have e3 : ((Answers.many x.data.toList - 1 : Nat) : Int) = c := by
    have := congrArg Prod.fst hc
    simpa using this
  rw [e3]

end Go.Proofs.YticadkggaanbjaaGreatDoor.WalkSeNum

/-
  A text of any length parted at blanks, into four at most: the library's SplitN at a blank, walked. (The shelf's own contract stops at texts of four thousand million letters: it allows any separator.)
-/
namespace Go.Proofs.YticadkggaanbjaaGreatDoor.WalkSeCut
open Go.RowKit
open Nums (str)
open Decimals (words)

theorem infoS : (Tryz.prog.info? 9).map (fun i => (i.zero, i.size, i.bytes)) = some (some (.string ByteArray.empty), 1, 16) := by kernel_rfl
/-- pieces as letters -/
abbrev lets (l : List ByteArray) : List (List UInt8) := l.map (·.data.toList)

/-- one piece more -/
theorem one_more {s rest : List UInt8} {N d : Nat} (hd : d < N - 1) {a b : List UInt8} (h1 : rest = a ++ 32 :: b) (h2 : Lib.index rest [32] = (a.length : Int)) {done : List (List UInt8)} (h : done ++ Lib.splitK [32] 0 (N - 1 - d) rest = Lib.splitK [32] 0 (N - 1) s) :
    (done ++ [a]) ++ Lib.splitK [32] 0 (N - 1 - (d + 1)) b = Lib.splitK [32] 0 (N - 1) s := by
  rw [← h, show N - 1 - d = (N - 1 - (d + 1)) + 1 by omega, Lib.splitK, h2, if_neg (by simp)]
  have e1 : rest.take (((a.length : Nat) : Int).toNat + 0) = a := by rw [h1]; simp
  have e2 : rest.drop (((a.length : Nat) : Int).toNat + [(32 : UInt8)].length) = b := by rw [h1]; simp
  rw [e1, e2]
  simp
/-- the last piece -/
theorem the_last {s rest : List UInt8} {N d : Nat} (hl : Lib.index rest [32] = -1 ∨ N - 1 - d = 0) {done : List (List UInt8)} (h : done ++ Lib.splitK [32] 0 (N - 1 - d) rest = Lib.splitK [32] 0 (N - 1) s) : done ++ [rest] = Lib.splitK [32] 0 (N - 1) s := by
  rw [← h]
  congr 1
  rcases hl with hl | hl
  · cases N - 1 - d with
    | zero => rfl
    | succ k => rw [Lib.splitK, hl]; rfl
  · rw [hl]; rfl

set_option maxHeartbeats 8000000 in
set_option maxRecDepth 100000 in
theorem gen_any (s : ByteArray) (N : Nat) (hN : min 4 ((s.size : Int) + 1) = (N : Int)) (hm : s.size ≤ maxLen - 1) (w : World) :
    Calls Tryz.prog 122 #[.string s, .string ⟨#[32]⟩, .int .i64 0, .int .i64 4] w fun e w' => ∃ xs : List ByteArray, lets xs = Lib.splitK [32] 0 (N - 1) s.data.toList ∧ xs.length ≤ N ∧ e = .returned (.slice (some ⟨w.heap.size, 0, none⟩) xs.length N) ∧ w' = w.alloc (.cells (Lib.cellsOf xs N) 9) := by
  have hm2 : (s.size : Int) ≤ 9223372036854775806 := by unfold maxLen at hm; omega
  have hN1 : 1 ≤ N := by omega
  have hN5 : N ≤ 4 := by omega
  clear hm
  have hmk := run_make_row' (P := Tryz.prog) 79 9 (.string ByteArray.empty) 16 Tryz.underlying79 infoS rfl .i64 .i64 N (by omega) (by omega)
  have cI := fun (x : ByteArray) (w1 : World) => Tryz.strings_Index_one x 32 w1
  go_enter Tryz.func122, Tryz.ntmps122
  go_wp2_with fail
  clear hmk
  go_loopw [0, 10] (fun s0 s10 wr => ∃ (done : List ByteArray) (rest : ByteArray), s0 = .string rest ∧ s10 = .int .i64 (done.length : Int) ∧ done.length ≤ N - 1 ∧ rest.size ≤ s.size ∧ wr = w.alloc (.cells (Lib.cellsOf done N) 9) ∧ Hid (lets done ++ Lib.splitK [32] 0 (N - 1 - done.length) rest.data.toList = Lib.splitK [32] 0 (N - 1) s.data.toList)) (fun _ i _ => N - (intOf i).toNat)
  case atStart => exact ⟨[], s, rfl, rfl, Nat.zero_le _, Nat.le_refl _, by rw [Lib.cellsOf_nil], rfl⟩
  case round =>
    obtain ⟨done, rest, rfl, rfl, hd, hrs, rfl, HS⟩ := hrel
    have hnext : (Lib.cellsOf done N)[done.length]? = some (.string ByteArray.empty) := Lib.cellsOf_next (by omega)
    have hset : (Lib.cellsOf done N).setIfInBounds done.length (.string rest) = Lib.cellsOf (done ++ [rest]) N := Lib.cellsOf_set (by omega) rest
    have c := cI rest
    rw [← Lib.index_one] at c
    by_cases hlt : done.length < N - 1
    · have hltz : ((done.length : Nat) : Int) < (N : Int) - 1 := by omega
      rcases HdWords.index_cases 32 rest.data.toList with ⟨h1, h2⟩ | ⟨a, b, h1, h2, h3⟩
      · rw [h2] at c
        have HL : Hid (lets (done ++ [rest]) = Lib.splitK [32] 0 (N - 1) s.data.toList) := by
          show lets (done ++ [rest]) = _
          rw [lets, List.map_append]
          exact the_last (.inl h2) HS.out
        clear h1 h2
        go_wp2_with fail
        refine (c _).mono ?_
        rintro e w1 ⟨rfl, rfl⟩
        go_wp2_with fail
        go_ret
        refine ⟨done ++ [rest], HL.out, by simp; omega, ?_, rfl⟩
        simp
      · rw [h3] at c
        have hsz : rest.size = a.length + 1 + b.length := by
          have := congrArg List.length h1
          simp only [List.length_append, List.length_cons] at this
          have e : rest.data.toList.length = rest.size := Array.length_toList
          omega
        have HA : Hid ((rest.extract 0 a.length).data.toList = a) := by
          show _ = _
          rw [Lib.extract_from_zero, h1]
          simp
        have HB : Hid ((rest.extract (a.length + 1) rest.size).data.toList = b) := by
          show _ = _
          rw [Lib.extract_to_end, h1]
          simp
        have HO : Hid (lets done ++ [a] ++ Lib.splitK [32] 0 (N - 1 - (done.length + 1)) b = Lib.splitK [32] 0 (N - 1) s.data.toList) := one_more hlt h1 h3 HS.out
        have HX : Hid ((Lib.cellsOf done N).setIfInBounds done.length (.string (rest.extract 0 a.length)) = Lib.cellsOf (done ++ [rest.extract 0 a.length]) N) := Lib.cellsOf_set (by omega) _
        generalize a.length = i at c hsz HA HB HX
        have c0 : ¬ ((i : Int) < 0) := by omega
        have c1 : (0 : Int) ≤ (i : Int) := by omega
        have c2 : (i : Int) ≤ (rest.size : Int) := by omega
        have c3 : (0 : Int) ≤ (i : Int) + 1 := by omega
        have c4 : (i : Int) + 1 ≤ (rest.size : Int) := by omega
        have HZ : Hid (rest.size = i + 1 + b.length) := hsz
        clear h1 h2 h3 hsz
        go_wp2_with fail
        refine (c _).mono ?_
        rintro e w1 ⟨rfl, rfl⟩
        go_wp2_with fail
        go_round
        case measure => simp [intOf]; omega
        case rel =>
          refine ⟨done ++ [rest.extract 0 i], rest.extract (i + 1) rest.size, rfl, by simp, by simp; omega, by rw [ByteArray.size_extract]; omega, by rw [HX.out], ?_⟩
          show lets (done ++ [rest.extract 0 i]) ++ _ = _
          have e := HO.out
          rw [lets, List.map_append, List.map_singleton, HA.out, HB.out, List.length_append, List.length_singleton]
          exact e
    · have hltz : ¬ (((done.length : Nat) : Int) < (N : Int) - 1) := by omega
      have HL : Hid (lets (done ++ [rest]) = Lib.splitK [32] 0 (N - 1) s.data.toList) := by
        show lets (done ++ [rest]) = _
        rw [lets, List.map_append]
        exact the_last (.inr (by omega)) HS.out
      clear c
      go_wp2_with fail
      go_ret
      refine ⟨done ++ [rest], HL.out, by simp; omega, ?_, rfl⟩
      simp

set_option maxHeartbeats 1000000 in
theorem cut_any (s : ByteArray) (hm : s.size ≤ maxLen - 1) (w : World) :
    Calls Tryz.prog 63 #[.string s, .string ⟨#[32]⟩, .int .i64 4] w fun e w' => ∃ (xs : List ByteArray) (N : Nat), lets xs = Lib.splitK [32] 0 (min 4 (s.data.toList.length + 1) - 1) s.data.toList ∧ xs.length ≤ N ∧ e = .returned (.slice (some ⟨w.heap.size, 0, none⟩) xs.length N) ∧ w' = w.alloc (.cells (Lib.cellsOf xs N) 9) := by
  have hsz : s.data.toList.length = s.size := Array.length_toList
  have c := gen_any s (min 4 (s.size + 1)) (by omega) hm w
  go_enter Tryz.func63, Tryz.ntmps63
  go_wp2_with fail
  refine c.mono ?_
  rintro e w1 ⟨xs, h1, h2, rfl, rfl⟩
  have HX : Hid (lets xs = Lib.splitK [32] 0 (min 4 (s.size + 1) - 1) s.data.toList ∧ xs.length ≤ min 4 (s.size + 1)) := ⟨h1, h2⟩
  clear h1 h2 c
  obtain ⟨N, HN⟩ : ∃ N : Nat, Hid (min 4 (s.size + 1) = N) := ⟨_, rfl⟩
  rw [HN.out] at HX ⊢
  go_wp2_with fail
  go_ret
  exact ⟨xs, N, by rw [hsz, HN.out]; exact HX.out.1, HX.out.2, rfl, rfl⟩

end Go.Proofs.YticadkggaanbjaaGreatDoor.WalkSeCut

/-
  What the program's serve.read returns of any text: the word and the numbers, or that it is no such text.
-/
namespace Go.Proofs.YticadkggaanbjaaGreatDoor.WalkSeRead
open Go.RowKit Go.Maps
open Nums (str)
open Lists (Row strs ints bt)
open Decimals (words)
open Answers (num nums many)
open SeNums (readW)
open WalkHdLib (Tabs)
open WalkSeNum (Syn Told Num)

theorem split_ne (k : Nat) (s : List UInt8) : Lib.splitK [32] 0 k s ≠ [] := by
  cases k with
  | zero => simp [Lib.splitK]
  | succ k =>
    rw [Lib.splitK]
    split <;> simp
theorem split_head (k : Nat) (s : List UInt8) {y : List UInt8} {r : List (List UInt8)} (h : Lib.splitK [32] 0 k s = y :: r) : y.length ≤ s.length := by
  cases k with
  | zero =>
    simp only [Lib.splitK, List.cons.injEq] at h
    rw [h.1]
    exact Nat.le_refl _
  | succ k =>
    rw [Lib.splitK] at h
    split at h
    · simp only [List.cons.injEq] at h
      rw [h.1]
      exact Nat.le_refl _
    · simp only [List.cons.injEq] at h
      rw [← h.1, List.length_take]
      omega
/-- a text parted -/
theorem cut_any (s : ByteArray) (hm : s.size ≤ 140737488351232) (w : World) :
    Calls Tryz.prog 63 #[.string s, .string ⟨#[32]⟩, .int .i64 4] w fun e w' => ∃ (x0 : ByteArray) (xt : List ByteArray) (cap : Nat), e = .returned (.slice (some ⟨w.heap.size, 0, none⟩) (xt.length + 1) cap) ∧ Row w' (some ⟨w.heap.size, 0, none⟩) (xt.length + 1) cap (strs (x0 :: xt)) ∧
      (words 32 s.data.toList = x0.data.toList :: xt.map (·.data.toList) ∨ (3 < (words 32 s.data.toList).length ∧ xt.length = 3)) ∧ x0.size ≤ 140737488351232 ∧ xt.length ≤ 3 ∧ Below w.heap.size w w' := by
  refine (WalkSeCut.cut_any s (by unfold maxLen; omega) w).mono ?_
  rintro e w' ⟨xs, N, hd, hl, rfl, rfl⟩
  have hsz : s.data.toList.length = s.size := Array.length_toList
  have hrow : Row (w.alloc (.cells (Lib.cellsOf xs N) 9)) (some ⟨w.heap.size, 0, none⟩) xs.length N (strs xs) := by
    refine ⟨by simp [strs], hl, fun _ => ⟨w.heap.size, 0, rfl, fun j u hj => ?_⟩⟩
    rw [World.cell?_alloc_at _ _ _ _ (by rfl)]
    have hjl : j < xs.length := by
      have := (List.getElem?_eq_some_iff.1 hj).1
      simpa [strs] using this
    simp [strs, hjl] at hj
    obtain rfl := hj
    simp only [Lib.cellsOf, Nat.zero_add, List.getElem?_toArray]
    rw [List.getElem?_append_left (by simpa using hjl)]
    simp [hjl]
  match xs, hd, hl, hrow with
  | [], hd, _, _ =>
    exfalso
    have := split_ne (min 4 (s.data.toList.length + 1) - 1) s.data.toList
    rw [← hd] at this
    exact this rfl
  | x0 :: xt, hd, hl, hrow =>
    have h0 := split_head (min 4 (s.data.toList.length + 1) - 1) s.data.toList hd.symm
    have hx : x0.data.toList.length = x0.size := Array.length_toList
    simp only at h0
    refine ⟨x0, xt, N, rfl, hrow, ?_, by omega, ?_, (Below.refl _ _).alloc (Nat.le_refl _) _⟩
    · rcases SeNums.split_four s.data.toList with ⟨_, h5⟩ | ⟨h4, h5⟩
      · left
        rw [← h5, ← hd]
        rfl
      · right
        rw [← hd] at h5
        exact ⟨h4, by simpa using h5⟩
    · rcases SeNums.split_four s.data.toList with ⟨h4, h5⟩ | ⟨h4, h5⟩
      · rw [← h5, ← hd] at h4
        simp [WalkSeCut.lets] at h4
        omega
      · rw [← hd] at h5
        simp [WalkSeCut.lets] at h5
        omega

def asInts (ns : List Nat) : List Int := ns.map fun (k : Nat) => (k : Int)
theorem ints_snoc (ns : List Nat) (N : Nat) : ints (asInts (ns ++ [N])) = ints (asInts ns) ++ [.int .i64 (N : Int)] := by
  unfold asInts ints
  rw [List.map_append, List.map_append]
  rfl
/-- two numbers, as they lie -/
theorem two_ints {w : World} {B : Nat} {v : Value} {ns : List Nat} (h : w.ownsRow B 3 1 v ns.length (ints (asInts ns))) (h2 : ns.length = 2) : ∃ N0 N1 g c, ns = [N0, N1] ∧ v = .slice (some ⟨g, 0, none⟩) 2 c ∧ w.cell? ⟨g, 0, none⟩ = some (.int .i64 (N0 : Int)) ∧ w.cell? ⟨g, 1, none⟩ = some (.int .i64 (N1 : Int)) := by
  match ns, h2 with
  | [N0, N1], _ =>
    obtain ⟨g, c, rfl, _, _, _, _, _, hc, _⟩ := Keeps.owns_open h (by simp)
    exact ⟨N0, N1, g, c, rfl, rfl, hc 0 _ rfl, hc 1 _ rfl⟩
theorem one_int {w : World} {B : Nat} {v : Value} {ns : List Nat} (h : w.ownsRow B 3 1 v ns.length (ints (asInts ns))) (h2 : ns.length = 1) : ∃ N0 g c, ns = [N0] ∧ v = .slice (some ⟨g, 0, none⟩) 1 c ∧ w.cell? ⟨g, 0, none⟩ = some (.int .i64 (N0 : Int)) := by
  match ns, h2 with
  | [N0], _ =>
    obtain ⟨g, c, rfl, _, _, _, _, _, hc, _⟩ := Keeps.owns_open h (by simp)
    exact ⟨N0, g, c, rfl, rfl, hc 0 _ rfl⟩

theorem infoI : (Tryz.prog.info? 3).map (fun i => (i.zero, i.size, i.bytes)) = some (some (.int .i64 0), 1, 8) := by kernel_rfl

/-- what is read -/
def Read (ask : List UInt8) (w : World) (e : Ending) (w' : World) : Prop :=
  ((readW ask = none ∧ e = .returned (.tuple #[.string ⟨#[]⟩, .slice none 0 0, .iface 99 (.int .i64 2)])) ∨
    ∃ (w0 : List UInt8) (ns : List Nat) (v : Value), readW ask = some (w0, ns) ∧ e = .returned (.tuple #[.string (str w0), v, .nilIface]) ∧ w'.ownsRow w.heap.size 3 1 v ns.length (ints (asInts ns))) ∧ Below w.heap.size w w'
theorem read_not {ask : List UInt8} {x0 : List UInt8} {xt : List (List UInt8)} (h : words 32 ask = x0 :: xt ∨ (3 < (words 32 ask).length ∧ xt.length = 3)) (hn : xt.length + 1 ≠ many x0) : readW ask = none := by
  unfold readW
  rcases h with h | ⟨h, _⟩
  · rw [h]
    exact if_neg hn
  · match hw : words 32 ask, h with
    | w0 :: wt, h =>
      refine if_neg ?_
      have := Answers.many_le w0
      simp at h
      omega
theorem read_is {ask : List UInt8} {x0 : List UInt8} {xt : List (List UInt8)} (h : words 32 ask = x0 :: xt ∨ (3 < (words 32 ask).length ∧ xt.length = 3)) (hn : xt.length + 1 = many x0) : readW ask = (nums xt).map (fun ns => (x0, ns)) := by
  have hw : words 32 ask = x0 :: xt := by
    rcases h with h | ⟨_, h⟩
    · exact h
    · have := Answers.many_le x0
      omega
  unfold readW
  rw [hw]
  exact if_pos hn

set_option maxHeartbeats 4000000 in
set_option maxRecDepth 100000 in
theorem read_any (s : ByteArray) (hm : s.size ≤ 140737488351232) (w : World) (hT : Tabs w) (hE : Syn w) :
    Calls Tryz.prog 49 #[.string s] w fun e w' => Read s.data.toList w e w' := by
  have HT : Hid (∀ w', Below w.heap.size w w' → Tabs w' ∧ Syn w') := fun w' b => ⟨hT.below b, hE.below b⟩
  have cC := cut_any s hm w
  clear hT hE
  go_enter Tryz.func49, Tryz.ntmps49
  go_wp2_with fail
  refine cC.mono ?_
  rintro e w1 ⟨x0, xt, cap, rfl, r1, hw, hx0, hx3, b1⟩
  obtain ⟨n, HN1⟩ : ∃ n, Hid (xt.length + 1 = n) := ⟨_, rfl⟩
  have HXL : Hid ((xt.map (·.data.toList)).length + 1 = n) := by show _ = _; rw [List.length_map]; exact HN1.out
  have HW : Hid (words 32 s.data.toList = x0.data.toList :: xt.map (·.data.toList) ∨ (3 < (words 32 s.data.toList).length ∧ (xt.map (·.data.toList)).length = 3)) := by
    show _ ∨ _
    rw [List.length_map]
    exact hw
  have hn4 : n ≤ 4 := by have := HN1.out; omega
  have HM4 : Hid (n ≤ 4) := hn4
  have HN0 : Hid (0 < n) := by have := HN1.out; show _ < _; omega
  have hn1 : 1 ≤ n := by have := HN1.out; omega
  rw [HN1.out] at r1 ⊢
  have HR1 : Hid (Row w1 (some ⟨w.heap.size, 0, none⟩) n cap (strs (x0 :: xt))) := r1
  have HB1 : Hid (Below w.heap.size w w1) := b1
  have s0 : w1.cell? ⟨w.heap.size, 0, none⟩ = some (.string x0) := by
    have := r1.at 0 (.string x0) rfl
    simpa using this
  have HS0 : Hid (∀ w', Below w1.heap.size w1 w' → w'.cell? ⟨w.heap.size, 0, none⟩ = some (.string x0)) := fun w' b => Lists.cell_below b s0
  have j0 : 0 < n := hn1
  obtain ⟨M, HM⟩ : ∃ M, Hid (many x0.data.toList = M) := ⟨_, rfl⟩
  have HLk : Hid (∀ (w2 : World) (b : Nat), WalkSeNum.Owns w2 b 6 WalkSeNum.six → (Instr.lookup 155 (.map (some b)) (.string x0) true).run Tryz.prog w2 = .ok (.tuple #[.int .i64 ((M - 1 : Nat) : Int), .bool (decide (M ≠ 0))]) w2) := fun w2 b o => by rw [← HM.out]; exact WalkSeNum.look_six o x0 (by unfold maxLen; omega)
  clear r1 b1 hw cC hx3
  go_upto_region 2 with fail
  go_region_held3 (fun w' => w'.cell? ⟨w.heap.size, 0, none⟩ = some (.string x0)) (first | exact s0 | exact s2 | go_keep) (first | (go_at_call 109; refine (WalkSeNum.wants_any _).mono ?_; rintro e w2 ⟨rfl, o2, b2⟩; have hlk := HLk.out w2 _ (show WalkSeNum.Owns w2 w1.heap.size 6 WalkSeNum.six from o2); have HB2 : Hid (Below w1.heap.size w1 w2) := bt (Below.refl _ w1).drew b2; have s2 := HS0.out w2 HB2.out; clear o2 b2))
  have HB3 : Hid (Below w.heap.size w w2) := bt HB1.out HB2.out
  have HR2 : Hid (Row w2 (some ⟨w.heap.size, 0, none⟩) n cap (strs (x0 :: xt))) := HR1.out.below HB2.out
  have HW2 : Hid (w.heap.size ≤ w2.heap.size) := HB3.out.size
  clear hlk s0 HS0 HB1 HB2 HR1 HLk
  by_cases h0 : M = 0
  · subst h0
    have HN : Hid (readW s.data.toList = none) := read_not HW.out (by rw [HM.out]; omega)
    rw [show (!decide ((0 : Nat) = 0)) = false from rfl]
    go_wp2_with fail
    go_ret3
    exact ⟨.inl ⟨HN.out, rfl⟩, HB3.out⟩
  rw [show (!decide (M = 0)) = true by rw [decide_eq_false h0]; rfl]
  obtain ⟨q, hq⟩ : ∃ q : Int, ((M - 1 : Nat) : Int) = q := ⟨_, rfl⟩
  have hq1 : q + 1 = (M : Int) := by omega
  have HMZ : Hid (M ≤ 3) := by show _ ≤ _; rw [← HM.out]; exact Answers.many_le _
  have q0 : 0 ≤ q := by omega
  have q3 : q ≤ 2 := by have := HMZ.out; omega
  rw [hq]
  clear hq
  by_cases hn : n = M
  rotate_left
  · have HN : Hid (readW s.data.toList = none) := read_not HW.out (by rw [HM.out, HXL.out]; exact hn)
    have i1 : ((n : Int) != 1 + q) = true := by rw [bne_iff_ne]; omega
    have i2 : ¬ (n : Int) = 1 + q := by omega
    clear hn hq1 h0
    go_wp2_with fail
    go_ret3
    exact ⟨.inl ⟨HN.out, rfl⟩, HB3.out⟩
  have HRd : Hid (readW s.data.toList = (nums (xt.map (·.data.toList))).map (fun ns => (x0.data.toList, ns))) := read_is HW.out (by rw [HM.out, HXL.out]; exact hn)
  have i1 : ((n : Int) != 1 + q) = false := by rw [bne_eq_false_iff_eq]; omega
  have i2 : (n : Int) = 1 + q := by omega
  clear hn hq1 h0 HW HM HMZ
  have hcap : n ≤ cap := HR2.out.2.1
  have HRt : Hid (Row w2 (if cap = 1 then some ⟨w.heap.size, 0, none⟩ else (some (⟨w.heap.size, 0, none⟩ : Addr)).map (·.add 1)) (n - 1) (cap - 1) (strs xt)) := by
    have h := HR2.out.cut 1 n (by omega) (Nat.le_refl _)
    rw [List.take_of_length_le (by have := HN1.out; simp [strs]; omega)] at h
    exact h
  go_upto_region 5 with fail
  clear i1 i2
  go_cut [33, 34, 35] from 32 to 32 (fun v33 v34 v35 wc => ∃ (a1 : Option Addr) (c1 : Nat), v33 = .slice a1 (n - 1) c1 ∧ v34 = .int .i64 ((n - 1 : Nat) : Int) ∧ v35 = .int .i64 0 ∧ Hid (Row w2 a1 (n - 1) c1 (strs xt)) ∧ wc = w2)
  case first => as_aux_lemma =>
    by_cases hc : cap = 1
    · rw [if_pos hc] at HRt
      subst hc
      obtain rfl : n = 1 := by omega
      go_wp2_with fail
      go_meet
      case rel => exact ⟨_, _, rfl, rfl, rfl, HRt, rfl⟩
    · rw [if_neg hc] at HRt
      go_wp2_with fail
      go_meet
      case rel => exact ⟨_, _, rfl, rfl, rfl, HRt, rfl⟩
  obtain ⟨a1, c1, rfl, rfl, rfl, HRx, rfl⟩ := hcut
  clear HRt hcap hn4 hn1 j0 q0 q3
  obtain ⟨m, hm1⟩ : ∃ m, n - 1 = m := ⟨_, rfl⟩
  have HML : Hid (xt.length = m) := by have := HN1.out; show _ = _; omega
  have hm3 : m ≤ 3 := by have := HM4.out; omega
  rw [hm1] at HRx ⊢
  clear hm1
  obtain ⟨i0, hi, hz0, hz1, hz2⟩ := info_parts infoI
  have HS2 : Hid (wc.cell? ⟨w.heap.size, 0, none⟩ = some (.string x0)) := s2
  clear s2
  go_wp2_with fail
  go_loopw [3, 9, 10, 11, 35] (fun v3 _ _ _ kv wr => ∃ (k : Nat) (ns : List Nat), k ≤ m ∧ ns.length = k ∧ kv = .int .i64 (k : Int) ∧ Hid (nums ((xt.map (·.data.toList)).take k) = some ns) ∧ Hid (wr.ownsRow wc.heap.size 3 1 v3 ns.length (ints (asInts ns))) ∧ Hid (Below wc.heap.size wc wr)) (fun _ _ _ _ kv _ => m - (intOf kv).toNat)
  case atStart => exact ⟨0, [], Nat.zero_le _, rfl, rfl, rfl, World.ownsRow_nil _ _ _ _, Below.refl _ _⟩
  case round =>
    obtain ⟨k, ns, hk, hnk, rfl, HNs, HOn, HBr⟩ := hrel
    by_cases hlt : k < m
    · have i1 : (k : Int) < (m : Int) := by omega
      have hkl : k < xt.length := by have := HML.out; omega
      obtain ⟨b1, off1, rfl, hcs⟩ := (HRx.out.below HBr.out).2.2 (by omega)
      have c0 := hcs k (.string xt[k]) (by simp [strs, hkl])
      have HBw : Hid (Below w.heap.size w wr) := bt HB3.out HBr.out
      have hx : (xt.map (·.data.toList))[k]? = some xt[k].data.toList := by simp [hkl]
      have HX1 : Hid (num xt[k].data.toList = none → nums (xt.map (·.data.toList)) = none) := fun h => Answers.nums_none hx h
      have HX2 : Hid (∀ K, num xt[k].data.toList = some K → nums ((xt.map (·.data.toList)).take (k + 1)) = some (ns ++ [K])) := fun K h => Answers.nums_next hx HNs.out h
      have cN := WalkSeNum.number_any xt[k] wr (HT.out wr HBw.out).1 (HT.out wr HBw.out).2
      generalize xt[k] = X at c0 HX1 HX2 cN
      clear hkl hcs hx
      go_wp2_with fail
      refine cN.mono ?_
      rintro e w5 ⟨nv, ok, rfl, told, b5⟩
      have HB5 : Hid (Below wc.heap.size wc w5) := bt HBr.out b5
      have HO5 : Hid (w5.ownsRow wc.heap.size 3 1 u3 ns.length (ints (asInts ns))) := Keeps.owns_kept HOn.out (Keeps.Kept.of_below (fun _ => False) b5) (fun _ _ h => h)
      clear b5 cN
      rcases told with ⟨K, hk1, rfl, rfl⟩ | ⟨hk1, rfl⟩
      · have HN2 : Hid (nums ((xt.map (·.data.toList)).take (k + 1)) = some (ns ++ [K])) := HX2.out K hk1
        have HBs : Hid (wc.heap.size ≤ w5.heap.size) := HB5.out.size
        have HFF : Hid (∀ wn, (w5.alloc (.cells #[.int .i64 (K : Int)] 3)).grownBy wn u3.ownBlock → Below wc.heap.size wc wn) := fun wn gr => (HB5.out.alloc HBs.out _).grown gr (by have := HBs.out; simp; omega) fun j hj => (HO5.out.lt j hj).1
        clear hk1 HX1 HX2 c0 HOn HBr
        go_wp2_with (at_builtin; go_must (refine wpList_append_own _ rfl (.tmp 47) (.tmp 49) 45 rfl wc.heap.size 3 i0 (.int .i64 0) 1 8 Tryz.underlying45 hi hz0 hz1 hz2 rfl (by decide) _ _ _ rfl (HO5.out.alloc _) ⟨_, 0, none⟩ 1 1 [.int .i64 (K : Int)] rfl rfl (cell_one_new _ _ _) (fun u hu => by rw [List.mem_singleton.1 hu]; rfl) (by unfold maxLen; omega) (by omega) (by have := HBs.out; simp; omega) ?_); intro v1 wn o1 g1 z1; clear z1; have HO6 : Hid (wn.ownsRow wc.heap.size 3 1 v1 (ns ++ [K]).length (ints (asInts (ns ++ [K])))) := (by show World.ownsRow _ _ _ _ _ _ _; rw [List.length_append, ints_snoc]; exact o1); have HB6 : Hid (Below wc.heap.size wc wn) := HFF.out wn g1; clear o1 g1)
        go_roundw
        case rel => exact ⟨k + 1, ns ++ [K], by omega, by rw [List.length_append]; show ns.length + 1 = k + 1; omega, by go_num, HN2, HO6, HB6⟩
        case measure => simp [intOf]; omega
      · have HF : Hid (readW s.data.toList = none) := by
          show _ = _
          rw [HRd.out, HX1.out hk1]
          rfl
        have HB6 : Hid (Below w.heap.size w w5) := bt HB3.out HB5.out
        clear hk1 HX1 HX2 c0 HOn HBr HO5
        go_wp2_with fail
        go_ret3
        exact ⟨.inl ⟨HF.out, rfl⟩, HB6.out⟩
    · obtain rfl : k = m := by omega
      have i1 : ¬ (k : Int) < (k : Int) := by omega
      have HF : Hid (readW s.data.toList = some (x0.data.toList, ns)) := by
        have h := HNs.out
        rw [List.take_of_length_le (by have := HML.out; rw [List.length_map]; omega)] at h
        show _ = _
        rw [HRd.out, h]
        rfl
      have s3 := Lists.cell_below HBr.out HS2.out
      have HB6 : Hid (Below w.heap.size w wr) := bt HB3.out HBr.out
      have HO6 : Hid (wr.ownsRow w.heap.size 3 1 u3 ns.length (ints (asInts ns))) := Keeps.owns_base HOn.out HW2.out
      have j0 : 0 < n := HN0.out
      go_wp2_with fail
      go_ret3
      exact ⟨.inr ⟨_, _, _, HF.out, rfl, HO6.out⟩, HB6.out⟩

end Go.Proofs.YticadkggaanbjaaGreatDoor.WalkSeRead

/-
  What the program's serve.tellEntry, serve.tellLeaf and serve.tellSums return.
-/
namespace Go.Proofs.YticadkggaanbjaaGreatDoor.WalkSeTell
open Go.RowKit
open Nums (str text)
open Lists (Row strs ints bt)
open Keeps (owns_row)
open Wides (Wide)
open EntRows (cells)
open Decimals (dec joined)
open Errs (errv errv0 errv_pos)
open Entries (Entry entsE leafsOf)
open Answers (sumsT)
open WalkHdLib (Tabs)

/-- a leaf told -/
def leafT (l : List Int) (k : Nat) : List UInt8 := if l.length ≤ k then [] else text (l.getD k 0)
def noneE (n k : Nat) : Nat := if n ≤ k then 5 else 0

set_option maxHeartbeats 4000000 in
theorem leaf_any (l : List Int) (a : Option Addr) (n cap k : Nat) (w : World) (hr : Row w a n cap (ints l)) (hv : ∀ x ∈ l, Nums.valid x = true) :
    Calls Tryz.prog 53 #[.slice a n cap, .int .i64 (k : Int)] w fun e w' => e = .returned (.tuple #[.string (str (leafT l k)), errv (noneE n k)]) ∧ Below w.heap.size w w' := by
  have hln : l.length = n := by rw [← hr.1, Lists.ints_length]
  by_cases h : n ≤ k
  · have HT : Hid (leafT l k = [] ∧ noneE n k = 5) := ⟨if_pos (by omega), if_pos h⟩
    have i1 : (k : Int) ≥ (n : Int) := by omega
    have i2 : (n : Int) ≤ (k : Int) := by omega
    rw [HT.out.1, HT.out.2, errv_pos 5 (by decide)]
    clear hr hv hln
    go_enter Tryz.func53, Tryz.ntmps53
    go_wp2_with fail
    go_ret2
    exact ⟨rfl, Below.refl _ _⟩
  · have hk : k < l.length := by omega
    obtain ⟨b, off, rfl, hc⟩ := hr.2.2 (by omega)
    have c0 := hc k (.int .i64 l[k]) (by simp [ints, hk])
    have cP := WalkHex.print_yes l[k] w (hv _ (List.getElem_mem hk))
    have HT : Hid (leafT l k = text l[k] ∧ noneE n k = 0) := by
      refine ⟨?_, if_neg h⟩
      unfold leafT
      rw [if_neg (by omega), List.getD_eq_getElem?_getD, List.getElem?_eq_getElem hk]
      rfl
    have i1 : ¬ (k : Int) ≥ (n : Int) := by omega
    have i2 : ¬ (n : Int) ≤ (k : Int) := by omega
    have i3 : (k : Int) < (n : Int) := by omega
    rw [HT.out.1, HT.out.2, errv0]
    generalize l[k] = X at c0 cP
    generalize str (text X) = T at cP
    clear hr hv hc
    go_enter Tryz.func53, Tryz.ntmps53
    go_wp2_with fail
    refine cP.mono ?_
    rintro e w1 ⟨rfl, b1⟩
    have HB : Hid (Below w.heap.size w w1) := b1
    clear b1 cP c0
    go_wp2_with fail
    go_ret2
    exact ⟨rfl, HB.out⟩

theorem size_blank : (ByteArray.mk #[32]).size = 1 := rfl
theorem str_parts (a : List UInt8) (d : ByteArray) : str (a ++ 32 :: d.data.toList) = str a ++ ⟨#[32]⟩ ++ d := by
  unfold Nums.str
  apply ByteArray.ext
  apply Array.ext'
  simp [ByteArray.data_append]
/-- an entry told -/
def entT (l : List Entry) (k : Nat) : List UInt8 := if l.length ≤ k then [] else dec (l.getD k (0, ⟨#[]⟩)).1.toNat ++ 32 :: (l.getD k (0, ⟨#[]⟩)).2.data.toList

set_option maxHeartbeats 4000000 in
theorem entry_any (l : List Entry) (a : Option Addr) (n cap k : Nat) (w : World) (hr : Wide 2 w a n cap (cells l)) (hf : entsE l = 0) (hT : Tabs w) :
    Calls Tryz.prog 52 #[.slice a n cap, .int .i64 (k : Int)] w fun e w' => e = .returned (.tuple #[.string (str (entT l k)), errv (noneE n k)]) ∧ Below w.heap.size w w' := by
  have hln := EntRows.len_of hr
  by_cases h : n ≤ k
  · have HT : Hid (entT l k = [] ∧ noneE n k = 5) := ⟨if_pos (by omega), if_pos h⟩
    have i1 : (k : Int) ≥ (n : Int) := by omega
    have i2 : (n : Int) ≤ (k : Int) := by omega
    rw [HT.out.1, HT.out.2, errv_pos 5 (by decide)]
    clear hr hT hln
    go_enter Tryz.func52, Tryz.ntmps52
    go_wp2_with fail
    go_ret2
    exact ⟨rfl, Below.refl _ _⟩
  · have hk : k < l.length := by omega
    obtain ⟨b, off, rfl, _⟩ := hr.2.2 (by omega)
    obtain ⟨c0, c1⟩ := EntRows.at_two hr k hk
    have HT : Hid (entT l k = dec l[k].1.toNat ++ 32 :: l[k].2.data.toList ∧ noneE n k = 0) := by
      refine ⟨?_, if_neg h⟩
      unfold entT
      rw [if_neg (by omega), List.getD_eq_getElem?_getD, List.getElem?_eq_getElem hk]
      rfl
    have hok := Entries.ent_ok ((Entries.ents_ok hf).2 l[k] (List.getElem_mem hk))
    have i1 : ¬ (k : Int) ≥ (n : Int) := by omega
    have i2 : ¬ (n : Int) ≤ (k : Int) := by omega
    have i3 : (k : Int) < (n : Int) := by omega
    rw [HT.out.1, HT.out.2, errv0]
    generalize l[k] = X at c0 c1 hok ⊢
    obtain ⟨t, d⟩ := X
    simp only at c0 c1 hok ⊢
    have HC : Hid (∀ w', Below w.heap.size w w' → Calls Tryz.prog 112 #[.int .i64 t] w' fun e w'' => e = .returned (.string (str (dec t.toNat))) ∧ Below w'.heap.size w' w'') := fun w' b => WalkHdLib.itoa_any t hok.1 hok.2.1 w' (hT.below b)
    have hdz := Decimals.dec_length 6 t.toNat (by have := hok.1; have := hok.2.1; have e : (10 : Nat) ^ 7 = 10000000 := by decide
                                                  omega)
    have hsz : (str (dec t.toNat)).size ≤ 7 := by rw [Nums.str_size]; exact hdz
    have HS : Hid (str (dec t.toNat ++ 32 :: d.data.toList) = str (dec t.toNat) ++ ⟨#[32]⟩ ++ d) := by
      exact str_parts _ _
    have hd200 := hok.2.2
    rw [HS.out]
    generalize str (dec t.toNat) = D at HC hsz ⊢
    have ea := fun w' : World => run_string_add_sum (P := Tryz.prog) (w := w') D ⟨#[32]⟩ (by rw [size_blank]; omega)
    have eb := fun w' : World => run_string_add_sum (P := Tryz.prog) (w := w') (D ++ ⟨#[32]⟩) d (by rw [ByteArray.size_append, size_blank]; omega)
    have ja : ¬ (9223372036854775807 : Int) < ((D.size + (ByteArray.mk #[32]).size : Nat) : Int) := by rw [size_blank]; omega
    have jb : ¬ (9223372036854775807 : Int) < (((D ++ ⟨#[32]⟩).size + d.size : Nat) : Int) := by rw [ByteArray.size_append, size_blank]; omega
    have HK : Hid (∀ w', Below w.heap.size w w' → w'.cell? ⟨b, off + k * 2, none⟩ = some (.int .i64 t) ∧ w'.cell? ⟨b, off + k * 2 + 1, none⟩ = some (.string d)) := fun w' bb => ⟨Lists.cell_below bb c0, Lists.cell_below bb c1⟩
    clear hr hT hf hk hok hdz HS HT
    go_enter Tryz.func52, Tryz.ntmps52
    go_upto_region 3 with fail
    go_region_held3 (fun w' => w'.cell? ⟨b, off + k * 2, none⟩ = some (.int .i64 t) ∧ w'.cell? ⟨b, off + k * 2 + 1, none⟩ = some (.string d)) (first | exact ⟨c0, c1⟩ | exact ⟨s0, s1⟩ | go_keep) (first | (go_at_call 112; refine (HC.out _ (Below.refl _ w).drew).mono ?_; rintro e w1 ⟨rfl, b1⟩; have HB1 : Hid (Below w.heap.size w w1) := bt (Below.refl _ w).drew b1; obtain ⟨s0, s1⟩ := HK.out w1 HB1.out; clear b1))
    go_wp2_with fail
    go_ret2
    exact ⟨rfl, HB1.out⟩

/-- sums told -/
def tellT (E : Nat) (l : List Int) : List UInt8 := if E = 0 then sumsT l else []
def laidS (l : List Int) (j i : Nat) : Value := if i < j then .string (str (text (l.getD i 0))) else .string ByteArray.empty
theorem infoS : (Tryz.prog.info? 9).map (fun i => (i.zero, i.size, i.bytes)) = some (some (.string ByteArray.empty), 1, 16) := by kernel_rfl

set_option maxHeartbeats 4000000 in
theorem sums_any (E : Nat) (l : List Int) (a : Option Addr) (n cap : Nat) (w : World) (hr : Row w a n cap (ints l)) (hn : n ≤ 1000) (hv : ∀ x ∈ l, Nums.valid x = true) :
    Calls Tryz.prog 54 #[.slice a n cap, errv E] w fun e w' => e = .returned (.tuple #[.string (str (tellT E l)), errv E]) ∧ Below w.heap.size w w' := by
  have hln : l.length = n := by rw [← hr.1, Lists.ints_length]
  by_cases hE : E = 0
  rotate_left
  · have HN : Hid (errv E = .iface 99 (.int .i64 (E : Nat)) ∧ tellT E l = []) := ⟨errv_pos _ hE, if_neg hE⟩
    rw [HN.out.1, HN.out.2]
    clear hr hv hln hE
    go_enter Tryz.func54, Tryz.ntmps54
    go_wp2_with fail
    go_ret2
    exact ⟨rfl, Below.refl _ _⟩
  subst hE
  rw [show tellT 0 l = sumsT l from rfl, errv0]
  by_cases h0 : n = 0
  · have HT : Hid (sumsT l = [45]) := if_pos (List.length_eq_zero_iff.1 (by omega))
    subst h0
    rw [HT.out]
    clear hr hv hln
    go_enter Tryz.func54, Tryz.ntmps54
    go_wp2_with fail
    go_ret2
    exact ⟨rfl, Below.refl _ _⟩
  have hne : ((n : Int) == 0) = false := by rw [beq_eq_false_iff_ne]; omega
  have hne2 : ¬ (n : Int) = 0 := by omega
  have hne3 : ¬ n = 0 := h0
  have hmk := run_make_row' (P := Tryz.prog) 79 9 (.string ByteArray.empty) 16 Tryz.underlying79 infoS rfl .i64 .i64 n (by omega) (by omega)
  have HR : Hid (Row w a n cap (ints l)) := hr
  have HV : Hid (∀ x ∈ l, Nums.valid x = true) := hv
  have HL : Hid (l.length = n) := hln
  clear hr hv hln h0
  go_enter Tryz.func54, Tryz.ntmps54
  go_upto_region 6 with fail
  clear hmk
  have HW0 : Hid ((w.alloc (.cells (madeCells #[.string ByteArray.empty] n) 9)).rowIs w.heap.size 9 n (laidS l 0)) := (World.rowIs_made w _ n _).congr (fun i _ => by simp [laidS])
  have HB0 : Hid (Below w.heap.size w (w.alloc (.cells (madeCells #[.string ByteArray.empty] n) 9))) := (Below.refl _ _).alloc (Nat.le_refl _) _
  go_wp2_with fail
  go_loopw [1, 7, 8, 20] (fun _ _ _ i wr => ∃ k : Nat, k ≤ n ∧ i = .int .i64 (k : Int) ∧ Hid (wr.rowIs w.heap.size 9 n (laidS l k)) ∧ Hid (Below w.heap.size w wr)) (fun _ _ _ i _ => n - (intOf i).toNat)
  case atStart => exact ⟨0, by omega, rfl, HW0, HB0⟩
  case round =>
    obtain ⟨k, hk, rfl, HW, HB⟩ := hrel
    clear HW0 HB0
    by_cases hlt : k < n
    · have i5 : (k : Int) < (n : Int) := by omega
      have hkl : k < l.length := by have := HL.out; omega
      obtain ⟨b, off, rfl, hc⟩ := (HR.out.below HB.out).2.2 (by omega)
      have c0 := hc k (.int .i64 l[k]) (by simp [ints, hkl])
      have cP := WalkHex.print_yes l[k] wr (HV.out _ (List.getElem_mem hkl))
      have HX : Hid (l.getD k 0 = l[k]) := by
        show _ = _
        rw [List.getD_eq_getElem?_getD, List.getElem?_eq_getElem hkl]
        rfl
      generalize l[k] = X at c0 cP HX
      have HX2 : Hid (.string (str (text (l.getD k 0))) = Value.string (str (text X))) := by show _ = _; rw [HX.out]
      generalize str (text X) = T at cP HX2
      clear hc hkl HX
      go_wp2_with fail
      refine cP.mono ?_
      rintro e w5 ⟨rfl, b5⟩
      have HW5 : Hid (w5.rowIs w.heap.size 9 n (laidS l k)) := HW.out.of_block (b5.block _ HW.out.lt)
      have HB5 : Hid (Below w.heap.size w w5) := bt HB.out b5
      have c5 := HW5.out.cell hlt
      have f5 := HW5.out.frozen k
      generalize laidS l k k = old at c5
      clear cP b5 HW HB c0
      go_wp2_with fail
      go_roundw
      case rel =>
        refine ⟨k + 1, by omega, by go_num, (HW5.out.set k _).congr (fun i _ => ?_), HB5.out.setCell (Nat.le_refl _) _⟩
        unfold laidS
        rcases Nat.lt_trichotomy i k with h | h | h
        · rw [if_neg (by omega), if_pos h, if_pos (by omega)]
        · subst h
          rw [if_pos rfl, if_pos (by omega), HX2.out]
        · rw [if_neg (by omega), if_neg (by omega), if_neg (by omega)]
      case measure => simp [intOf]; omega
    · have i5 : ¬ (k : Int) < (n : Int) := by omega
      obtain rfl : k = n := by omega
      have HT : Hid (sumsT l = joined 32 (l.map text)) := if_neg (fun e => hne3 (by rw [← HL.out, e]; rfl))
      have hjl : (joined 32 (l.map text)).length ≤ 9000 := by
        have h := SeNums.joined_length (l.map text) 8 (fun x hx => by obtain ⟨y, _, rfl⟩ := List.mem_map.1 hx; rw [Nums.text_length]; omega)
        rw [List.length_map, HL.out] at h
        omega
      have hmap : (l.map (fun x => str (text x))).map (·.data.toList) = l.map text := by
        rw [List.map_map]
        rfl
      have cJ := Tryz.strings_Join w.heap.size 0 k (l.map (fun x => str (text x))) ⟨#[32]⟩ wr (by
        intro j x hx
        have hj : j < k := by
          have := (List.getElem?_eq_some_iff.1 hx).1
          rw [List.length_map, HL.out] at this
          exact this
        have hjl : j < l.length := by have := HL.out; omega
        have h := HW.out.cell hj
        unfold laidS at h
        rw [if_pos hj, List.getD_eq_getElem?_getD, List.getElem?_eq_getElem hjl] at h
        simp [hjl] at hx
        rw [← hx, Nat.zero_add]
        exact h) HW.out.lt (by rw [List.length_map, HL.out]; omega) (by rw [List.length_map, HL.out]; exact Nat.le_refl _) (by
        rw [hmap, show (ByteArray.mk #[32]).data.toList = [32] from rfl, SeNums.join_is]
        omega)
      rw [hmap, show (ByteArray.mk #[32]).data.toList = [32] from rfl, SeNums.join_is, List.length_map, HL.out] at cJ
      have HJ : Hid (str (sumsT l) = ⟨(joined 32 (l.map text)).toArray⟩) := by show _ = _; rw [HT.out]; rfl
      generalize (⟨(joined 32 (l.map text)).toArray⟩ : ByteArray) = T at cJ HJ
      clear hjl hmap HT
      go_wp2_with fail
      refine cJ.mono ?_
      rintro e w6 ⟨rfl, b6⟩
      have HB6 : Hid (Below w.heap.size w w6) := bt HB.out b6
      clear b6 cJ
      go_wp2_with fail
      go_ret2
      exact ⟨by rw [HJ.out]; rfl, HB6.out⟩

end Go.Proofs.YticadkggaanbjaaGreatDoor.WalkSeTell

/-
  What the program's serve.tileSums returns: the sums of the tile that is looked for, or that there is none.
-/
namespace Go.Proofs.YticadkggaanbjaaGreatDoor.WalkSeTile
open Go.RowKit
open Lists (Row ints bt)
open Keeps (owns_row)
open Wides (Wide)
open Tiles (Tile tiles)
open TileRows (cells)
open Errs (errv errv0 errv_pos)
open SeNums (isT)

/-! the first that is so -/
def Index (f : Tile → Bool) (l : List Tile) (w : World) (e : Ending) (w' : World) : Prop :=
  ((∃ (i : Nat) (p : Tile), l[i]? = some p ∧ (∀ q ∈ l.take i, f q = false) ∧ f p = true ∧ e = .returned (.int .i64 (i : Int))) ∨ ((∀ q ∈ l, f q = false) ∧ e = .returned (.int .i64 (-1)))) ∧ Below w.heap.size w w'
theorem ahead {f : Tile → Bool} {l : List Tile} (k : Nat) (hk : k < l.length) (h : ∀ q ∈ l.take k, f q = false) (hx : f l[k] = false) : ∀ q ∈ l.take (k + 1), f q = false := by
  rw [List.take_succ_eq_append_getElem hk]
  intro q hq
  rcases List.mem_append.1 hq with h1 | h1
  · exact h q h1
  · rw [List.mem_singleton.1 h1]
    exact hx

set_option maxHeartbeats 4000000 in
set_option maxRecDepth 100000 in
theorem index_any (l : List Tile) (a : Option Addr) (n cap : Nat) (w : World) (hr : Wide 3 w a n cap (cells l)) (hn : n ≤ 1000000) (g : FuncId) (caps : Array Value) (hg : Enters Tryz.prog g) (f : Tile → Bool)
    (hf : ∀ (p : Tile) (w1 : World), Below w.heap.size w w1 → Calls Tryz.prog g (#[.agg #[.int .i64 (p.1 : Int), .int .i64 (p.2.1 : Int), .int .i64 (p.2.2 : Int)]] ++ caps) w1 fun e w' => e = .returned (.bool (f p)) ∧ Below w1.heap.size w1 w') :
    Calls Tryz.prog 116 #[.slice a n cap, .func (.func g) #[] caps] w fun e w' => Index f l w e w' := by
  have hln := TileRows.len_of hr
  have HR : Hid (Wide 3 w a n cap (cells l)) := hr
  have HN : Hid (l.length = n) := hln
  have HF : Hid (∀ (p : Tile) (w1 : World), Below w.heap.size w w1 → Calls Tryz.prog g (#[.agg #[.int .i64 (p.1 : Int), .int .i64 (p.2.1 : Int), .int .i64 (p.2.2 : Int)]] ++ caps) w1 fun e w' => e = .returned (.bool (f p)) ∧ Below w1.heap.size w1 w') := hf
  have a26 := WalkTile.aggT
  have z26 := WalkTile.sizeT
  clear hr hln hf
  go_enter Tryz.func116, Tryz.ntmps116
  go_upto_region 2 with fail
  go_loopw [8] (fun kv wr => ∃ k : Nat, k ≤ n ∧ kv = .int .i64 (k : Int) ∧ Hid (∀ q ∈ l.take k, f q = false) ∧ Hid (Below w.heap.size w wr)) (fun kv _ => n - (intOf kv).toNat)
  case atStart => exact ⟨0, Nat.zero_le _, rfl, (fun q hq => by cases hq), Below.refl _ _⟩
  case round =>
    obtain ⟨k, hk, rfl, HA, HB⟩ := hrel
    by_cases hlt : k < n
    · have i1 : (k : Int) < (n : Int) := by omega
      have hkl : k < l.length := by have := HN.out; omega
      obtain ⟨b1, off1, rfl, _⟩ := (HR.out.below HB.out).2.2 (by omega)
      obtain ⟨p0, p1, p2⟩ := TileRows.at_three (HR.out.below HB.out) k hkl
      have HX1 : Hid (f l[k] = false → ∀ q ∈ l.take (k + 1), f q = false) := fun h => ahead k hkl HA.out h
      have HX2 : Hid (l[k]? = some l[k]) := List.getElem?_eq_getElem hkl
      have cF := HF.out l[k] wr HB.out
      generalize l[k] = x at p0 p1 p2 HX1 HX2 cF
      obtain ⟨x0, x1, x2⟩ := x
      simp only at p0 p1 p2 cF
      clear hkl
      cases hfx : f ⟨x0, x1, x2⟩ with
      | false =>
        rw [hfx] at cF
        have HY : Hid (∀ q ∈ l.take (k + 1), f q = false) := HX1.out hfx
        clear hfx HX1 HX2
        go_wp2_with (rw [hg, Oper.upon_enter]; refine cF.mono ?_; rintro e w5 ⟨rfl, b5⟩; have HB5 : Hid (Below w.heap.size w w5) := bt HB.out b5; clear b5)
        go_roundw
        case rel => exact ⟨k + 1, by omega, by go_num, HY, HB5⟩
        case measure => simp [intOf]; omega
      | true =>
        rw [hfx] at cF
        have HY : Hid (f ⟨x0, x1, x2⟩ = true) := hfx
        clear hfx HX1
        go_wp2_with (rw [hg, Oper.upon_enter]; refine cF.mono ?_; rintro e w5 ⟨rfl, b5⟩; have HB5 : Hid (Below w.heap.size w w5) := bt HB.out b5; clear b5)
        go_ret
        exact ⟨.inl ⟨k, _, HX2.out, HA.out, HY.out, rfl⟩, HB5.out⟩
    · obtain rfl : k = n := by omega
      have HE : Hid (∀ q ∈ l, f q = false) := by
        have h := HA.out
        rw [List.take_of_length_le (by have := HN.out; omega)] at h
        exact h
      have i1 : ¬ (k : Int) < (k : Int) := by omega
      clear HA
      go_wp2_with fail
      go_ret
      exact ⟨.inr ⟨HE.out, rfl⟩, HB.out⟩

/-! is it the one that is looked for? -/
set_option maxHeartbeats 1000000 in
theorem is_any (t : Tile) (L I : Nat) (b1 b2 : Nat) (w : World) (h1 : w.cell? ⟨b1, 0, none⟩ = some (.int .i64 (L : Int))) (h2 : w.cell? ⟨b2, 0, none⟩ = some (.int .i64 (I : Int))) :
    Calls Tryz.prog 117 #[.agg #[.int .i64 (t.1 : Int), .int .i64 (t.2.1 : Int), .int .i64 (t.2.2 : Int)], .pointer (some ⟨b1, 0, none⟩), .pointer (some ⟨b2, 0, none⟩)] w fun e w' => e = .returned (.bool (isT L I t)) ∧ Below w.heap.size w w' := by
  obtain ⟨x0, x1, x2⟩ := t
  have b0 : Below w.heap.size w (w.alloc (.cells #[.int .i64 (x0 : Int), .int .i64 (x1 : Int), .int .i64 (x2 : Int)] 67)) := (Below.refl _ _).alloc (Nat.le_refl _) _
  have k1 := Lists.cell_below b0 h1
  have k2 := Lists.cell_below b0 h2
  have HB : Hid (Below w.heap.size w (w.alloc (.cells #[.int .i64 (x0 : Int), .int .i64 (x1 : Int), .int .i64 (x2 : Int)] 67))) := b0
  have a26 := WalkTile.aggT
  have z26 := WalkTile.sizeT
  simp only
  by_cases e1 : x0 = L
  · subst e1
    by_cases e2 : x1 = I
    · subst e2
      have HI : Hid (isT x0 x1 (x0, x1, x2) = true) := decide_eq_true ⟨rfl, rfl⟩
      rw [HI.out]
      go_enter Tryz.func117, Tryz.ntmps117
      go_wp2_with fail
      go_ret
      exact ⟨rfl, HB.out⟩
    · have HI : Hid (isT x0 I (x0, x1, x2) = false) := decide_eq_false fun h => e2 h.2
      have i2 : ((x1 : Int) == (I : Int)) = false := by rw [beq_eq_false_iff_ne]; omega
      rw [HI.out]
      clear e2
      go_enter Tryz.func117, Tryz.ntmps117
      go_wp2_with fail
      go_ret
      exact ⟨rfl, HB.out⟩
  · have HI : Hid (isT L I (x0, x1, x2) = false) := decide_eq_false fun h => e1 h.1
    have i2 : ((x0 : Int) == (L : Int)) = false := by rw [beq_eq_false_iff_ne]; omega
    rw [HI.out]
    clear e1
    go_enter Tryz.func117, Tryz.ntmps117
    go_wp2_with fail
    go_ret
    exact ⟨rfl, HB.out⟩

theorem enters : Enters Tryz.prog 117 := enters_of Tryz.func117 (by kernel_rfl) rfl

set_option maxHeartbeats 4000000 in
set_option maxRecDepth 100000 in
theorem tile_any (l : List Int) (a : Option Addr) (n cap L I : Nat) (w : World) (hr : Row w a n cap (ints l)) (h0 : Trees.leafsE l = 0) (hn : n ≤ 200) :
    Calls Tryz.prog 56 #[.slice a n cap, .int .i64 (L : Int), .int .i64 (I : Int)] w fun e w' => ∃ v, e = .returned (.tuple #[v, errv (SeNums.tileE n L I)]) ∧ w'.ownsRow w.heap.size 3 1 v (SeNums.tileS l L I).length (ints (SeNums.tileS l L I)) ∧ Below w.heap.size w w' := by
  have hln : l.length = n := by rw [← hr.1, Lists.ints_length]
  have a26 := WalkTile.aggT
  have z26 := WalkTile.sizeT
  have b0 : Below w.heap.size w ((w.alloc (.cells #[.int .i64 (L : Int)] 3)).alloc (.cells #[.int .i64 (I : Int)] 3)) := ((Below.refl _ _).alloc (Nat.le_refl _) _).alloc (by simp) _
  have k1 : ((w.alloc (.cells #[.int .i64 (L : Int)] 3)).alloc (.cells #[.int .i64 (I : Int)] 3)).cell? ⟨w.heap.size, 0, none⟩ = some (.int .i64 (L : Int)) := by simp
  have k2 : ((w.alloc (.cells #[.int .i64 (L : Int)] 3)).alloc (.cells #[.int .i64 (I : Int)] 3)).cell? ⟨w.heap.size + 1, 0, none⟩ = some (.int .i64 (I : Int)) := by simp
  have hlt : w.heap.size + 1 < ((w.alloc (.cells #[.int .i64 (L : Int)] 3)).alloc (.cells #[.int .i64 (I : Int)] 3)).heap.size := by simp
  have HR : Hid (Row ((w.alloc (.cells #[.int .i64 (L : Int)] 3)).alloc (.cells #[.int .i64 (I : Int)] 3)) a n cap (ints l)) := hr.below b0
  have HB0 : Hid (Below w.heap.size w ((w.alloc (.cells #[.int .i64 (L : Int)] 3)).alloc (.cells #[.int .i64 (I : Int)] 3))) := b0
  have HL0 : Hid (Trees.leafsE l = 0) := h0
  have HLn : Hid (l.length = n) := hln
  clear hr b0 h0 hln
  go_enter Tryz.func56, Tryz.ntmps56
  go_upto_region 1 with fail
  generalize (w.alloc (.cells #[.int .i64 (L : Int)] 3)).alloc (.cells #[.int .i64 (I : Int)] 3) = w0 at HB0 HR k1 k2 hlt ⊢
  have HK : Hid (∀ w', Below w0.heap.size w0 w' → w'.cell? ⟨w.heap.size, 0, none⟩ = some (.int .i64 (L : Int)) ∧ w'.cell? ⟨w.heap.size + 1, 0, none⟩ = some (.int .i64 (I : Int))) := fun w' b => ⟨Lists.cell_below b k1, Lists.cell_below b k2⟩
  clear k1 k2
  have cA := WalkTile.all_any (n : Int) w0
  go_wp2_with fail
  refine cA.mono ?_
  rintro e w1 ⟨v, rfl, o1, b1⟩
  have HA : Hid (Tiles.sizeE (n : Int) = 0 ∧ Tiles.allL (n : Int) = tiles n) := ⟨if_neg (by omega), by unfold Tiles.allL; rw [if_neg (by omega), Int.toNat_natCast]⟩
  rw [HA.out.2] at o1
  rw [HA.out.1, WalkCheck.errv0]
  have HB1 : Hid (Below w.heap.size w w1) := bt HB0.out b1
  have HBc : Hid (Below w0.heap.size w0 w1) := b1
  have HR1 : Hid (Row w1 a n cap (ints l)) := HR.out.below b1
  obtain ⟨a2, c2, rfl, hw2⟩ := Wides.owns_wide o1
  have HW2 : Hid (Wide 3 w1 a2 (tiles n).length c2 (cells (tiles n))) := hw2
  have htl : (tiles n).length ≤ 200 := Tiles.upto_length n 4 (Nat.le_refl _) hn
  have HTl : Hid (∀ t ∈ tiles n, t.1 ≤ 3 ∧ t.2.1 ≤ 49 ∧ 1 ≤ t.2.2 ∧ t.2.2 ≤ 4) := Tiles.tiles_le hn
  have cI := index_any (tiles n) a2 _ c2 w1 hw2 (by omega) 117 #[.pointer (some ⟨w.heap.size, 0, none⟩), .pointer (some ⟨w.heap.size + 1, 0, none⟩)] enters (isT L I) (fun p w' b => is_any p L I w.heap.size (w.heap.size + 1) w' (HK.out w' (bt HBc.out b)).1 (HK.out w' (bt HBc.out b)).2)
  obtain ⟨N, HN⟩ : ∃ N, Hid ((tiles n).length = N) := ⟨_, rfl⟩
  rw [HN.out] at cI HW2 htl ⊢
  clear cA b1 o1 hw2 HB0 HR HBc HA
  go_wp2_with fail
  refine cI.mono ?_
  rintro e w2 ⟨hx, b2⟩
  have HB2 : Hid (Below w.heap.size w w2) := bt HB1.out b2
  have HR2 : Hid (Row w2 a n cap (ints l)) := HR1.out.below b2
  have HW3 : Hid (Wide 3 w2 a2 N c2 (cells (tiles n))) := HW2.out.below b2
  clear cI b2 HB1 HR1 HW2
  rcases hx with ⟨i, p, h1, h2, h3, rfl⟩ | ⟨h1, rfl⟩
  · have hil : i < (tiles n).length := (List.getElem?_eq_some_iff.1 h1).1
    have hiN : i < N := by rw [← HN.out]; exact hil
    obtain ⟨b3, off3, rfl, _⟩ := HW3.out.2.2 (by omega)
    obtain ⟨p0, p1, p2⟩ := TileRows.at_three HW3.out i hil
    have hp : (tiles n)[i] = p := by
      rw [List.getElem?_eq_getElem hil] at h1
      exact Option.some.inj h1
    rw [hp] at p0 p1 p2
    obtain ⟨e1, e2, e3⟩ := SeNums.tile_yes (l := l) (L := L) (I := I) (k := i) (t := p) HL0.out (by rw [HLn.out]; exact h1) (by rw [HLn.out]; exact h2) h3
    rw [HLn.out] at e1
    have cS := WalkTile.sums_any l a n cap (p.1 : Int) (p.2.1 : Int) (p.2.2 : Int) w2 HR2.out
    rw [e2, WalkCheck.errv0, ← e3] at cS
    have HE : Hid (SeNums.tileE n L I = 0) := e1
    have i1 : ¬ (i : Int) < 0 := by omega
    have i2 : (i : Int) < (N : Int) := by omega
    have i3 : (0 : Int) ≤ (i : Int) := by omega
    obtain ⟨x0, x1, x2⟩ := p
    simp only at p0 p1 p2 cS
    clear h1 h2 h3 hp e1 e2 e3 hil
    go_wp2_with fail
    refine cS.mono ?_
    rintro e w4 ⟨v4, rfl, o4, b4⟩
    have HO4 : Hid (w4.ownsRow w.heap.size 3 1 v4 (SeNums.tileS l L I).length (ints (SeNums.tileS l L I))) := Keeps.owns_base o4 HB2.out.size
    have HB4 : Hid (Below w.heap.size w w4) := bt HB2.out b4
    clear cS o4 b4
    go_wp2_with fail
    go_ret2
    exact ⟨_, by rw [HE.out, errv0]; rfl, HO4.out, HB4.out⟩
  · obtain ⟨e1, e2⟩ := SeNums.tile_no (l := l) (L := L) (I := I) (by rw [HLn.out]; exact h1)
    rw [HLn.out] at e1
    have HE : Hid (SeNums.tileE n L I = 5 ∧ SeNums.tileS l L I = []) := ⟨e1, e2⟩
    clear e1 e2 h1
    go_wp2_with fail
    go_ret2
    exact ⟨.slice none 0 0, by rw [HE.out.1, errv_pos 5 (by decide)]; rfl, by rw [HE.out.2]; exact World.ownsRow_nil _ _ _ _, HB2.out⟩

end Go.Proofs.YticadkggaanbjaaGreatDoor.WalkSeTile

/-
  What the program's serve.Answer returns, for every list of entries, key and time, and every text.
-/
namespace Go.Proofs.YticadkggaanbjaaGreatDoor.WalkSeAns
open Go.RowKit
open Nums (str text)
open Lists (Row strs ints bt)
open Keeps (owns_row)
open Wides (Wide)
open EntRows (cells)
open Errs (errv errv0 errv_pos)
open Entries (Entry entsE leafsOf)
open Heads (Head)
open HeadVals (hv aggH sizeH)
open Answers (logE logH answer tell many wHead wEntry wLeaf wProof wGrow wTile)
open SeNums (readW)
open WalkReadRef (quad quad_new)
open WalkHdSign (at_quad)
open WalkHdLib (Tabs)
open WalkSe (logL leafs_valid leafs_fine)
open WalkSeNum (Syn)
open WalkSeRead (Read asInts one_int two_ints)
open WalkSeTell (leafT noneE entT tellT)

/-! what is told, in the words of the walks -/
theorem tell_head {l : List Entry} {key now : Int} {n m : Nat} : tell l key now wHead n m = (Heads.print (logH l key now), 0) := rfl
theorem tell_entry {l : List Entry} {key now : Int} {n m : Nat} : tell l key now wEntry n m = (entT l n, noneE l.length n) := by
  show (if l.length ≤ n then _ else _) = _
  unfold WalkSeTell.entT WalkSeTell.noneE
  split <;> rfl
theorem tell_leaf {l : List Entry} {key now : Int} {n m : Nat} : tell l key now wLeaf n m = (leafT (leafsOf l) n, noneE l.length n) := by
  show (if l.length ≤ n then _ else _) = _
  unfold WalkSeTell.leafT WalkSeTell.noneE
  rw [show (leafsOf l).length = l.length from List.length_map _]
  split <;> rfl
theorem tell_proof {l : List Entry} {key now : Int} {n m : Nat} (hf : entsE l = 0) : tell l key now wProof n m = (tellT (WalkMake.makeE (leafsOf l) n m) (WalkMake.makeL (leafsOf l) n m), WalkMake.makeE (leafsOf l) n m) := by
  show (if m ≤ n ∨ l.length < m then _ else _) = _
  have hE : WalkMake.makeE (leafsOf l) n m = if m ≤ n ∨ l.length < m then 1 else 0 := by
    unfold WalkMake.makeE WalkSteps.inside
    rw [if_pos (leafs_fine hf), show (leafsOf l).length = l.length from List.length_map _]
    by_cases h : m ≤ n ∨ l.length < m
    · rw [if_pos h, if_neg (by rw [decide_eq_true_iff]; omega)]
    · rw [if_neg h, if_pos (by rw [decide_eq_true_iff]; omega)]
  unfold WalkSeTell.tellT WalkMake.makeL
  rw [hE]
  by_cases h : m ≤ n ∨ l.length < m
  · rw [if_pos h, if_pos h]
    rfl
  · rw [if_neg h, if_neg h]
    rfl
theorem tell_grow {l : List Entry} {key now : Int} {n m : Nat} (hf : entsE l = 0) : tell l key now wGrow n m = (tellT (GrowsE.gmakeE (leafsOf l) n m) (GrowsE.gmakeL (leafsOf l) n m), GrowsE.gmakeE (leafsOf l) n m) := by
  show (if n < 1 ∨ m < n ∨ l.length < m then _ else _) = _
  have hE : GrowsE.gmakeE (leafsOf l) n m = if n < 1 ∨ m < n ∨ l.length < m then 1 else 0 := by
    unfold GrowsE.gmakeE GrowsE.inGrow
    rw [if_pos (leafs_fine hf), show (leafsOf l).length = l.length from List.length_map _]
    by_cases h : n < 1 ∨ m < n ∨ l.length < m
    · rw [if_pos h, if_neg (by rw [decide_eq_true_iff]; omega)]
    · rw [if_neg h, if_pos (by rw [decide_eq_true_iff]; omega)]
  unfold WalkSeTell.tellT GrowsE.gmakeL
  rw [hE]
  by_cases h : n < 1 ∨ m < n ∨ l.length < m
  · rw [if_pos h, if_pos h]
    rfl
  · rw [if_neg h, if_neg h]
    rfl
theorem tell_tile {l : List Entry} {key now : Int} {n m : Nat} : tell l key now wTile n m = (tellT (SeNums.tileE l.length n m) (SeNums.tileS (leafsOf l) n m), SeNums.tileE l.length n m) := by
  rw [Answers.tell_tile]
  unfold WalkSeTell.tellT SeNums.tileE SeNums.tileS SeNums.isT
  rw [show (leafsOf l).length = l.length from List.length_map _]
  split
  · rename_i t ht
    rw [ht]
    rfl
  · rename_i ht
    rw [ht]
    rfl
theorem made_valid {l : List Int} {i n : Int} (h : ∀ x ∈ l, Nums.valid x = true) : ∀ x ∈ WalkMake.makeL l i n, Nums.valid x = true := by
  unfold WalkMake.makeL
  split
  · exact Ways.way_valid _ _ _ (Nat.le_refl _) fun x hx => h x (List.mem_of_mem_take hx)
  · intro x hx
    cases hx
theorem grown_valid {l : List Int} {o n : Int} (h : ∀ x ∈ l, Nums.valid x = true) : ∀ x ∈ GrowsE.gmakeL l o n, Nums.valid x = true := by
  unfold GrowsE.gmakeL
  split
  · rename_i h1
    obtain ⟨h0, h2⟩ := GrowsE.gmake_of h1
    obtain ⟨o', n', rfl, rfl, h3, h4, h5⟩ := GrowsE.inGrow_of h2
    rw [Int.toNat_natCast, Int.toNat_natCast]
    exact Grows.grow_valid _ _ _ _ (Nat.le_refl _) h3 (by rw [List.length_take]; omega) fun x hx => h x (List.mem_of_mem_take hx)
  · intro x hx
    cases hx
/-- which words there are -/
theorem word_cases {w : List UInt8} {k : Nat} (h : k + 1 = many w) : (w = wHead ∧ k = 0) ∨ (w = wEntry ∧ k = 1) ∨ (w = wLeaf ∧ k = 1) ∨ (w = wProof ∧ k = 2) ∨ (w = wGrow ∧ k = 2) ∨ (w = wTile ∧ k = 2) := by
  unfold Answers.many at h
  split at h
  · rename_i h1
    exact .inl ⟨h1, by omega⟩
  · split at h
    · rename_i h1
      rcases h1 with h1 | h1
      · exact .inr (.inl ⟨h1, by omega⟩)
      · exact .inr (.inr (.inl ⟨h1, by omega⟩))
    · split at h
      · rename_i h1
        rcases h1 with h1 | h1 | h1
        · exact .inr (.inr (.inr (.inl ⟨h1, by omega⟩)))
        · exact .inr (.inr (.inr (.inr (.inl ⟨h1, by omega⟩))))
        · exact .inr (.inr (.inr (.inr (.inr ⟨h1, by omega⟩))))
      · omega

set_option maxHeartbeats 8000000 in
set_option maxRecDepth 100000 in
theorem answer_any (l : List Entry) (a : Option Addr) (n cap : Nat) (key now : Int) (ask : ByteArray) (w : World) (hr : Wide 2 w a n cap (cells l)) (hz : ∀ e ∈ l, e.2.size ≤ maxLen) (hs : ask.size ≤ 140737488351232) (hT : Tabs w) (hE : Syn w) :
    Calls Tryz.prog 8 #[.slice a n cap, .int .i64 key, .int .i64 now, .string ask] w fun e w' => e = .returned (.tuple #[.string (str (answer l key now ask.data.toList).1), errv (answer l key now ask.data.toList).2]) ∧ Below w.heap.size w w' := by
  have hln := EntRows.len_of hr
  have aH := aggH
  have zH := sizeH
  have HR : Hid (∀ w', Below w.heap.size w w' → Wide 2 w' a n cap (cells l)) := fun w' b => hr.below b
  have HT : Hid (∀ w', Below w.heap.size w w' → Tabs w') := fun w' b => hT.below b
  have HZ : Hid (∀ e ∈ l, e.2.size ≤ maxLen) := hz
  have cR := WalkSeRead.read_any ask hs w hT hE
  clear hr hz hT hE
  go_enter Tryz.func8, Tryz.ntmps8
  go_wp2_with fail
  refine cR.mono ?_
  rintro e w1 ⟨hx, b1⟩
  have HB1 : Hid (Below w.heap.size w w1) := b1
  clear cR b1
  rcases hx with ⟨h1, rfl⟩ | ⟨w0, ns, v, h1, rfl, o1⟩
  · have HF : Hid (answer l key now ask.data.toList = ([], 2)) := SeNums.answer_none h1
    clear h1
    go_wp2_with fail
    go_ret2
    exact ⟨by rw [HF.out]; rfl, HB1.out⟩
  obtain ⟨hn1, hn2, hA1, hA2⟩ := SeNums.answer_some (l := l) (key := key) (now := now) h1
  have cS := WalkSe.sum_any l a n cap key now w1 (HR.out w1 HB1.out) HZ.out (HT.out w1 HB1.out)
  have HA2 : Hid (logE l key now = 0 → answer l key now ask.data.toList = tell l key now w0 (ns.getD 0 0) (ns.getD 1 0)) := hA2
  by_cases hE : logE l key now = 0
  rotate_left
  · have HF : Hid (answer l key now ask.data.toList = ([], logE l key now)) := hA1 hE
    have HN : Hid (errv (logE l key now) = .iface 99 (.int .i64 (logE l key now : Nat))) := errv_pos _ hE
    rw [HN.out] at cS
    generalize logE l key now = E at HF HN cS
    generalize logH l key now = X at cS
    obtain ⟨x0, x1, x2, x3⟩ := X
    unfold hv at cS
    simp only at cS
    clear hA1 hA2 h1 hE hn1 hn2 o1 HA2
    go_wp2_with fail
    refine cS.mono ?_
    rintro e w2 ⟨v2, rfl, -, b2⟩
    have HB2 : Hid (Below w.heap.size w (w2.alloc (.cells #[.int .i64 x0, .int .i64 x1, .int .i64 x2, .int .i64 x3] 31))) := bt HB1.out (b2.alloc b2.size _)
    clear b2 cS
    go_wp2_with fail
    go_ret2
    exact ⟨by rw [HF.out, HN.out]; rfl, HB2.out⟩
  have hF := hA2 hE
  have hf := (Answers.log_ok hE).1
  have hho := Answers.head_ok hE
  have HLL : Hid (logL l key now = leafsOf l) := if_pos hE
  have HLn : Hid ((leafsOf l).length = n) := by show _ = _; rw [← hln]; exact List.length_map _
  have hn200 : n ≤ 200 := by rw [← hln]; exact (Entries.ents_ok hf).1
  obtain ⟨X, hX⟩ : ∃ X, logH l key now = X := ⟨_, rfl⟩
  rw [hE, errv0, HLL.out, HLn.out, hX] at cS
  rw [hX] at hho
  have HX : Hid (logH l key now = X) := hX
  have HPr : Hid (∀ w', Tabs w' → Calls Tryz.prog 51 #[hv X] w' fun e w'' => e = .returned (.tuple #[.string (str (Heads.print X)), .nilIface]) ∧ Below w'.heap.size w' w'') := fun w' ht => by
    have h := WalkHdSign.print_any X w' ht
    rw [Heads.headE_zero.2 hho, if_pos rfl, errv0] at h
    exact h
  generalize hPX : str (Heads.print X) = PX at HPr
  have HPX : Hid (str (Heads.print X) = PX) := hPX
  clear hPX
  obtain ⟨x0, x1, x2, x3⟩ := X
  unfold hv at cS HPr
  simp only at cS HPr
  clear hA1 hA2 h1 hE HA2 HLL hX hho
  go_wp2_with fail
  refine cS.mono ?_
  rintro e w2 ⟨v2, rfl, o2, b2⟩
  obtain ⟨a2, c2, rfl, hr2, -⟩ := owns_row o2
  go_upto_region 7 with fail
  have b3 : Below w2.heap.size w2 (w2.alloc (.cells #[.int .i64 x0, .int .i64 x1, .int .i64 x2, .int .i64 x3] 31)) := (Below.refl _ _).alloc (Nat.le_refl _) _
  have HB3 : Hid (Below w.heap.size w (w2.alloc (.cells #[.int .i64 x0, .int .i64 x1, .int .i64 x2, .int .i64 x3] 31))) := bt (bt HB1.out b2) b3
  have HC3 : Hid (Below w1.heap.size w1 (w2.alloc (.cells #[.int .i64 x0, .int .i64 x1, .int .i64 x2, .int .i64 x3] 31))) := bt b2 b3
  have hq := at_quad (quad_new w2 x0 x1 x2 x3)
  have HL3 : Hid (Row (w2.alloc (.cells #[.int .i64 x0, .int .i64 x1, .int .i64 x2, .int .i64 x3] 31)) a2 n c2 (ints (leafsOf l))) := hr2.below b3
  clear cS o2 b2 hr2 b3 HB1
  generalize w2.alloc (.cells #[.int .i64 x0, .int .i64 x1, .int .i64 x2, .int .i64 x3] 31) = w3 at HB3 HC3 hq HL3 ⊢
  rcases word_cases hn1 with ⟨rfl, h0⟩ | ⟨rfl, h0⟩ | ⟨rfl, h0⟩ | ⟨rfl, h0⟩ | ⟨rfl, h0⟩ | ⟨rfl, h0⟩
  · obtain ⟨p0, p1, p2, p3⟩ := hq
    simp only at p0 p1 p2 p3
    have HF : Hid (answer l key now ask.data.toList = (Heads.print ⟨x0, x1, x2, x3⟩, 0)) := by show _ = _; rw [← HX.out]; exact hF
    have cT := HPr.out w3 (HT.out w3 HB3.out)
    rw [show str wHead = ⟨#[104, 101, 97, 100]⟩ from rfl]
    clear o1 hF HC3 HR HT HZ hn1 hn2 h0 HPr HX
    go_wp2_with fail
    refine cT.mono ?_
    rintro e w4 ⟨rfl, b4⟩
    have HB4 : Hid (Below w.heap.size w w4) := bt HB3.out b4
    clear b4 cT p0 p1 p2 p3
    go_wp2_with fail
    go_ret2
    exact ⟨by rw [HF.out, HPX.out]; rfl, HB4.out⟩
  · obtain ⟨N0, g, c, rfl, rfl, c0⟩ := one_int o1 h0
    have HF : Hid (answer l key now ask.data.toList = ((entT l N0), noneE n N0)) := by rw [show answer l key now ask.data.toList = tell l key now wEntry N0 0 from hF]; rw [← hln]; exact tell_entry
    have cT : Calls Tryz.prog 52 #[.slice a n cap, .int .i64 (N0 : Int)] w3 fun e w'' => e = .returned (.tuple #[.string (str (entT l N0)), errv (noneE n N0)]) ∧ Below w3.heap.size w3 w'' := WalkSeTell.entry_any l a n cap N0 w3 (HR.out w3 HB3.out) hf (HT.out w3 HB3.out)
    have e0 := Lists.cell_below HC3.out c0
    generalize (entT l N0) = T at HF cT
    generalize noneE n N0 = E at HF cT
    generalize hTT : str T = TT at cT
    have HTT : Hid (str T = TT) := hTT
    generalize hEE : errv E = EE at cT
    have HEE : Hid (errv E = EE) := hEE
    rw [show str wEntry = ⟨#[101, 110, 116, 114, 121]⟩ from rfl]
    clear hq o1 c0 hTT hEE hF HC3 HR HT HZ hn1 hn2 h0 HPr HX
    go_wp2_with fail
    refine cT.mono ?_
    rintro e w4 ⟨rfl, b4⟩
    have HB4 : Hid (Below w.heap.size w w4) := bt HB3.out b4
    clear b4 cT e0
    go_wp2_with fail
    go_ret2
    exact ⟨by rw [HF.out, HTT.out, HEE.out]; rfl, HB4.out⟩
  · obtain ⟨N0, g, c, rfl, rfl, c0⟩ := one_int o1 h0
    have HF : Hid (answer l key now ask.data.toList = ((leafT (leafsOf l) N0), noneE n N0)) := by rw [show answer l key now ask.data.toList = tell l key now wLeaf N0 0 from hF]; rw [← hln]; exact tell_leaf
    have cT : Calls Tryz.prog 53 #[.slice a2 n c2, .int .i64 (N0 : Int)] w3 fun e w'' => e = .returned (.tuple #[.string (str (leafT (leafsOf l) N0)), errv (noneE n N0)]) ∧ Below w3.heap.size w3 w'' := WalkSeTell.leaf_any (leafsOf l) a2 n c2 N0 w3 HL3.out leafs_valid
    have e0 := Lists.cell_below HC3.out c0
    generalize (leafT (leafsOf l) N0) = T at HF cT
    generalize noneE n N0 = E at HF cT
    generalize hTT : str T = TT at cT
    have HTT : Hid (str T = TT) := hTT
    generalize hEE : errv E = EE at cT
    have HEE : Hid (errv E = EE) := hEE
    rw [show str wLeaf = ⟨#[108, 101, 97, 102]⟩ from rfl]
    clear hq o1 c0 hTT hEE hF HC3 HR HT HZ hn1 hn2 h0 HPr HX
    go_wp2_with fail
    refine cT.mono ?_
    rintro e w4 ⟨rfl, b4⟩
    have HB4 : Hid (Below w.heap.size w w4) := bt HB3.out b4
    clear b4 cT e0
    go_wp2_with fail
    go_ret2
    exact ⟨by rw [HF.out, HTT.out, HEE.out]; rfl, HB4.out⟩
  · obtain ⟨N0, N1, g, c, rfl, rfl, c0, c1⟩ := two_ints o1 h0
    have HF : Hid (answer l key now ask.data.toList = (tellT (WalkMake.makeE (leafsOf l) N0 N1) (WalkMake.makeL (leafsOf l) N0 N1), (WalkMake.makeE (leafsOf l) N0 N1))) := by rw [show answer l key now ask.data.toList = tell l key now wProof N0 N1 from hF]; exact tell_proof hf
    have HM : Hid (∀ w', Below w3.heap.size w3 w' → Calls Tryz.prog 35 #[.slice a2 n c2, .int .i64 (N0 : Int), .int .i64 (N1 : Int)] w' fun e w'' => ∃ v, e = .returned (.tuple #[v, errv (WalkMake.makeE (leafsOf l) N0 N1)]) ∧ w''.ownsRow w'.heap.size 3 1 v (WalkMake.makeL (leafsOf l) N0 N1).length (ints (WalkMake.makeL (leafsOf l) N0 N1)) ∧ Below w'.heap.size w' w'') := fun w' b => WalkMake.make_any (leafsOf l) a2 n c2 N0 N1 w' (HL3.out.below b)
    have HTs : Hid (∀ w' a' c', Row w' a' (WalkMake.makeL (leafsOf l) N0 N1).length c' (ints (WalkMake.makeL (leafsOf l) N0 N1)) → Calls Tryz.prog 54 #[.slice a' (WalkMake.makeL (leafsOf l) N0 N1).length c', errv (WalkMake.makeE (leafsOf l) N0 N1)] w' fun e w'' => e = .returned (.tuple #[.string (str (tellT (WalkMake.makeE (leafsOf l) N0 N1) (WalkMake.makeL (leafsOf l) N0 N1))), errv (WalkMake.makeE (leafsOf l) N0 N1)]) ∧ Below w'.heap.size w' w'') := fun w' a' c' h => WalkSeTell.sums_any _ _ a' _ c' w' h (by have := WalkMake.makeL_len (leafsOf l) N0 N1; omega) (made_valid leafs_valid)
    have HK : Hid (∀ w', Below w3.heap.size w3 w' → w'.cell? ⟨g, 0, none⟩ = some (.int .i64 (N0 : Int)) ∧ w'.cell? ⟨g, 1, none⟩ = some (.int .i64 (N1 : Int))) := fun w' b => ⟨Lists.cell_below (bt HC3.out b) c0, Lists.cell_below (bt HC3.out b) c1⟩
    obtain ⟨e0, e1⟩ := HK.out w3 (Below.refl _ _)
    generalize (WalkMake.makeE (leafsOf l) N0 N1) = E at HF HM HTs
    generalize (WalkMake.makeL (leafsOf l) N0 N1) = LL at HF HM HTs
    have HFs : Hid (answer l key now ask.data.toList = (tellT E LL, E)) := HF.out
    generalize hTT : str (tellT E LL) = TT at HTs
    have HTT : Hid (str (tellT E LL) = TT) := hTT
    generalize hEE : errv E = EE at HM HTs
    have HEE : Hid (errv E = EE) := hEE
    rw [show str wProof = ⟨#[112, 114, 111, 111, 102]⟩ from rfl]
    clear hq o1 c0 c1 hTT hEE HF hF HC3 HR HT HZ hn1 hn2 h0 HPr HX
    go_upto_region 15 with fail
    go_region_held3 (fun w' => w'.cell? ⟨g, 0, none⟩ = some (.int .i64 (N0 : Int)) ∧ w'.cell? ⟨g, 1, none⟩ = some (.int .i64 (N1 : Int))) (first | exact ⟨s0, s1⟩ | exact ⟨e0, e1⟩ | go_keep) (first | (go_at_call 35; refine (HM.out _ (Below.refl _ w3).drew).mono ?_; rintro e w9 ⟨v9, rfl, o9, b9⟩; have HB9 : Hid (Below w3.heap.size w3 w9) := bt (Below.refl _ w3).drew b9; obtain ⟨s0, s1⟩ := HK.out w9 HB9.out; obtain ⟨a9, c9, rfl, hr9, _⟩ := owns_row o9; have HR9 : Hid (Row w9 a9 LL.length c9 (ints LL)) := hr9; clear o9 b9 hr9) | (go_at_call 54; refine (HTs.out _ _ _ HR9.out).mono ?_; rintro e wa ⟨rfl, ba⟩; have HBa : Hid (Below w3.heap.size w3 wa) := bt HB9.out ba; obtain ⟨s0, s1⟩ := HK.out wa HBa.out; clear ba))
    go_wp2_with fail
    go_ret2
    exact ⟨by rw [HFs.out, HTT.out, HEE.out]; rfl, bt HB3.out HBa.out⟩
  · obtain ⟨N0, N1, g, c, rfl, rfl, c0, c1⟩ := two_ints o1 h0
    have HF : Hid (answer l key now ask.data.toList = (tellT (GrowsE.gmakeE (leafsOf l) N0 N1) (GrowsE.gmakeL (leafsOf l) N0 N1), (GrowsE.gmakeE (leafsOf l) N0 N1))) := by rw [show answer l key now ask.data.toList = tell l key now wGrow N0 N1 from hF]; exact tell_grow hf
    have HM : Hid (∀ w', Below w3.heap.size w3 w' → Calls Tryz.prog 55 #[.slice a2 n c2, .int .i64 (N0 : Int), .int .i64 (N1 : Int)] w' fun e w'' => ∃ v, e = .returned (.tuple #[v, errv (GrowsE.gmakeE (leafsOf l) N0 N1)]) ∧ w''.ownsRow w'.heap.size 3 1 v (GrowsE.gmakeL (leafsOf l) N0 N1).length (ints (GrowsE.gmakeL (leafsOf l) N0 N1)) ∧ Below w'.heap.size w' w'') := fun w' b => WalkGrowMake.make_any (leafsOf l) a2 n c2 N0 N1 w' (HL3.out.below b)
    have HTs : Hid (∀ w' a' c', Row w' a' (GrowsE.gmakeL (leafsOf l) N0 N1).length c' (ints (GrowsE.gmakeL (leafsOf l) N0 N1)) → Calls Tryz.prog 54 #[.slice a' (GrowsE.gmakeL (leafsOf l) N0 N1).length c', errv (GrowsE.gmakeE (leafsOf l) N0 N1)] w' fun e w'' => e = .returned (.tuple #[.string (str (tellT (GrowsE.gmakeE (leafsOf l) N0 N1) (GrowsE.gmakeL (leafsOf l) N0 N1))), errv (GrowsE.gmakeE (leafsOf l) N0 N1)]) ∧ Below w'.heap.size w' w'') := fun w' a' c' h => WalkSeTell.sums_any _ _ a' _ c' w' h (by have := GrowsE.gmakeL_len (leafsOf l) N0 N1; omega) (grown_valid leafs_valid)
    have HK : Hid (∀ w', Below w3.heap.size w3 w' → w'.cell? ⟨g, 0, none⟩ = some (.int .i64 (N0 : Int)) ∧ w'.cell? ⟨g, 1, none⟩ = some (.int .i64 (N1 : Int))) := fun w' b => ⟨Lists.cell_below (bt HC3.out b) c0, Lists.cell_below (bt HC3.out b) c1⟩
    obtain ⟨e0, e1⟩ := HK.out w3 (Below.refl _ _)
    generalize (GrowsE.gmakeE (leafsOf l) N0 N1) = E at HF HM HTs
    generalize (GrowsE.gmakeL (leafsOf l) N0 N1) = LL at HF HM HTs
    have HFs : Hid (answer l key now ask.data.toList = (tellT E LL, E)) := HF.out
    generalize hTT : str (tellT E LL) = TT at HTs
    have HTT : Hid (str (tellT E LL) = TT) := hTT
    generalize hEE : errv E = EE at HM HTs
    have HEE : Hid (errv E = EE) := hEE
    rw [show str wGrow = ⟨#[103, 114, 111, 119]⟩ from rfl]
    clear hq o1 c0 c1 hTT hEE HF hF HC3 HR HT HZ hn1 hn2 h0 HPr HX
    go_upto_region 17 with fail
    go_region_held3 (fun w' => w'.cell? ⟨g, 0, none⟩ = some (.int .i64 (N0 : Int)) ∧ w'.cell? ⟨g, 1, none⟩ = some (.int .i64 (N1 : Int))) (first | exact ⟨s0, s1⟩ | exact ⟨e0, e1⟩ | go_keep) (first | (go_at_call 55; refine (HM.out _ (Below.refl _ w3).drew).mono ?_; rintro e w9 ⟨v9, rfl, o9, b9⟩; have HB9 : Hid (Below w3.heap.size w3 w9) := bt (Below.refl _ w3).drew b9; obtain ⟨s0, s1⟩ := HK.out w9 HB9.out; obtain ⟨a9, c9, rfl, hr9, _⟩ := owns_row o9; have HR9 : Hid (Row w9 a9 LL.length c9 (ints LL)) := hr9; clear o9 b9 hr9) | (go_at_call 54; refine (HTs.out _ _ _ HR9.out).mono ?_; rintro e wa ⟨rfl, ba⟩; have HBa : Hid (Below w3.heap.size w3 wa) := bt HB9.out ba; obtain ⟨s0, s1⟩ := HK.out wa HBa.out; clear ba))
    go_wp2_with fail
    go_ret2
    exact ⟨by rw [HFs.out, HTT.out, HEE.out]; rfl, bt HB3.out HBa.out⟩
  · obtain ⟨N0, N1, g, c, rfl, rfl, c0, c1⟩ := two_ints o1 h0
    have HF : Hid (answer l key now ask.data.toList = (tellT (SeNums.tileE n N0 N1) (SeNums.tileS (leafsOf l) N0 N1), (SeNums.tileE n N0 N1))) := by rw [show answer l key now ask.data.toList = tell l key now wTile N0 N1 from hF]; exact (by rw [← hln]; exact tell_tile)
    have HM : Hid (∀ w', Below w3.heap.size w3 w' → Calls Tryz.prog 56 #[.slice a2 n c2, .int .i64 (N0 : Int), .int .i64 (N1 : Int)] w' fun e w'' => ∃ v, e = .returned (.tuple #[v, errv (SeNums.tileE n N0 N1)]) ∧ w''.ownsRow w'.heap.size 3 1 v (SeNums.tileS (leafsOf l) N0 N1).length (ints (SeNums.tileS (leafsOf l) N0 N1)) ∧ Below w'.heap.size w' w'') := fun w' b => WalkSeTile.tile_any (leafsOf l) a2 n c2 N0 N1 w' (HL3.out.below b) (leafs_fine hf) hn200
    have HTs : Hid (∀ w' a' c', Row w' a' (SeNums.tileS (leafsOf l) N0 N1).length c' (ints (SeNums.tileS (leafsOf l) N0 N1)) → Calls Tryz.prog 54 #[.slice a' (SeNums.tileS (leafsOf l) N0 N1).length c', errv (SeNums.tileE n N0 N1)] w' fun e w'' => e = .returned (.tuple #[.string (str (tellT (SeNums.tileE n N0 N1) (SeNums.tileS (leafsOf l) N0 N1))), errv (SeNums.tileE n N0 N1)]) ∧ Below w'.heap.size w' w'') := fun w' a' c' h => WalkSeTell.sums_any _ _ a' _ c' w' h (by have := SeNums.tileS_len (l := leafsOf l) (L := N0) (I := N1) (by rw [HLn.out]; exact hn200); omega) (SeNums.tileS_valid leafs_valid)
    have HK : Hid (∀ w', Below w3.heap.size w3 w' → w'.cell? ⟨g, 0, none⟩ = some (.int .i64 (N0 : Int)) ∧ w'.cell? ⟨g, 1, none⟩ = some (.int .i64 (N1 : Int))) := fun w' b => ⟨Lists.cell_below (bt HC3.out b) c0, Lists.cell_below (bt HC3.out b) c1⟩
    obtain ⟨e0, e1⟩ := HK.out w3 (Below.refl _ _)
    generalize (SeNums.tileE n N0 N1) = E at HF HM HTs
    generalize (SeNums.tileS (leafsOf l) N0 N1) = LL at HF HM HTs
    have HFs : Hid (answer l key now ask.data.toList = (tellT E LL, E)) := HF.out
    generalize hTT : str (tellT E LL) = TT at HTs
    have HTT : Hid (str (tellT E LL) = TT) := hTT
    generalize hEE : errv E = EE at HM HTs
    have HEE : Hid (errv E = EE) := hEE
    rw [show str wTile = ⟨#[116, 105, 108, 101]⟩ from rfl]
    clear hq o1 c0 c1 hTT hEE HF hF HC3 HR HT HZ hn1 hn2 h0 HPr HX
    go_upto_region 18 with fail
    go_region_held3 (fun w' => w'.cell? ⟨g, 0, none⟩ = some (.int .i64 (N0 : Int)) ∧ w'.cell? ⟨g, 1, none⟩ = some (.int .i64 (N1 : Int))) (first | exact ⟨s0, s1⟩ | exact ⟨e0, e1⟩ | go_keep) (first | (go_at_call 56; refine (HM.out _ (Below.refl _ w3).drew).mono ?_; rintro e w9 ⟨v9, rfl, o9, b9⟩; have HB9 : Hid (Below w3.heap.size w3 w9) := bt (Below.refl _ w3).drew b9; obtain ⟨s0, s1⟩ := HK.out w9 HB9.out; obtain ⟨a9, c9, rfl, hr9, _⟩ := owns_row o9; have HR9 : Hid (Row w9 a9 LL.length c9 (ints LL)) := hr9; clear o9 b9 hr9) | (go_at_call 54; refine (HTs.out _ _ _ HR9.out).mono ?_; rintro e wa ⟨rfl, ba⟩; have HBa : Hid (Below w3.heap.size w3 wa) := bt HB9.out ba; obtain ⟨s0, s1⟩ := HK.out wa HBa.out; clear ba))
    go_wp2_with fail
    go_ret2
    exact ⟨by rw [HFs.out, HTT.out, HEE.out]; rfl, bt HB3.out HBa.out⟩

end Go.Proofs.YticadkggaanbjaaGreatDoor.WalkSeAns

