/-
  A text of any length parted at blanks, into five at most: the library's SplitN at a blank, walked. (The shelf's own contract stops at texts of four thousand million letters: it allows any separator.)
-/
import Derived.Test.YticadkggaanbjaaGreatDoorShelf
import Derived.Test.YticadkggaanbjaaGreatDoorHdWords
import Derived.Test.YticadkggaanbjaaGreatDoorListRows
import Derived.Test.YticadkggaanbjaaGreatDoorRows
import Derived.WalkKit
import Derived.Lib.Walk
import Derived.Lib.Strings
import Derived.Laws.Strings3
import Derived.Laws.DeepStrings4
import Derived.Deep.OwnRows
import Derived.Deep.CutBlock
import Derived.Lib.IndexBytes
namespace Go.Proofs.YticadkggaanbjaaGreatDoor.WalkHdCut
open Go.RowKit
open Nums (str)
open Decimals (words)

theorem infoS : (Tryz.prog.info? 9).map (fun i => (i.zero, i.size, i.bytes)) = some (some (.string ByteArray.empty), 1, 16) := by kernel_rfl
/-- pieces as letters -/
abbrev lets (l : List ByteArray) : List (List UInt8) := l.map (·.data.toList)

/-- one piece more -/
theorem one_more {s rest : List UInt8} {N d : Nat} (hd : d < N - 1) {a b : List UInt8} (h1 : rest = a ++ 32 :: b) (h2 : Lib.index rest [32] = (a.length : Int)) {done : List (List UInt8)} (h : done ++ Lib.splitK [32] 0 (N - 1 - d) rest = Lib.splitK [32] 0 (N - 1) s) :
    (done ++ [a]) ++ Lib.splitK [32] 0 (N - 1 - (d + 1)) b = Lib.splitK [32] 0 (N - 1) s := by
  rw [← h, show N - 1 - d = (N - 1 - (d + 1)) + 1 by omega, Lib.splitK, h2, if_neg (by simp)]
  have e1 : rest.take (((a.length : Nat) : Int).toNat + 0) = a := by rw [h1]; simp
  have e2 : rest.drop (((a.length : Nat) : Int).toNat + [(32 : UInt8)].length) = b := by rw [h1]; simp
  rw [e1, e2]
  simp
/-- the last piece -/
theorem the_last {s rest : List UInt8} {N d : Nat} (hl : Lib.index rest [32] = -1 ∨ N - 1 - d = 0) {done : List (List UInt8)} (h : done ++ Lib.splitK [32] 0 (N - 1 - d) rest = Lib.splitK [32] 0 (N - 1) s) : done ++ [rest] = Lib.splitK [32] 0 (N - 1) s := by
  rw [← h]
  congr 1
  rcases hl with hl | hl
  · cases N - 1 - d with
    | zero => rfl
    | succ k => rw [Lib.splitK, hl]; rfl
  · rw [hl]; rfl

set_option maxHeartbeats 8000000 in
set_option maxRecDepth 100000 in
theorem gen_any (s : ByteArray) (N : Nat) (hN : min 5 ((s.size : Int) + 1) = (N : Int)) (hm : s.size ≤ maxLen - 1) (w : World) :
    Calls Tryz.prog 122 #[.string s, .string ⟨#[32]⟩, .int .i64 0, .int .i64 5] w fun e w' => ∃ xs : List ByteArray, lets xs = Lib.splitK [32] 0 (N - 1) s.data.toList ∧ xs.length ≤ N ∧ e = .returned (.slice (some ⟨w.heap.size, 0, none⟩) xs.length N) ∧ w' = w.alloc (.cells (Lib.cellsOf xs N) 9) := by
  have hm2 : (s.size : Int) ≤ 9223372036854775806 := by unfold maxLen at hm; omega
  have hN1 : 1 ≤ N := by omega
  have hN5 : N ≤ 5 := by omega
  clear hm
  have hmk := run_make_row' (P := Tryz.prog) 79 9 (.string ByteArray.empty) 16 Tryz.underlying79 infoS rfl .i64 .i64 N (by omega) (by omega)
  have cI := fun (x : ByteArray) (w1 : World) => Tryz.strings_Index_one x 32 w1
  go_enter Tryz.func122, Tryz.ntmps122
  go_wp2_with fail
  clear hmk
  go_loopw [0, 10] (fun s0 s10 wr => ∃ (done : List ByteArray) (rest : ByteArray), s0 = .string rest ∧ s10 = .int .i64 (done.length : Int) ∧ done.length ≤ N - 1 ∧ rest.size ≤ s.size ∧ wr = w.alloc (.cells (Lib.cellsOf done N) 9) ∧ Hid (lets done ++ Lib.splitK [32] 0 (N - 1 - done.length) rest.data.toList = Lib.splitK [32] 0 (N - 1) s.data.toList)) (fun _ i _ => N - (intOf i).toNat)
  case atStart => exact ⟨[], s, rfl, rfl, Nat.zero_le _, Nat.le_refl _, by rw [Lib.cellsOf_nil], rfl⟩
  case round =>
    obtain ⟨done, rest, rfl, rfl, hd, hrs, rfl, HS⟩ := hrel
    have hnext : (Lib.cellsOf done N)[done.length]? = some (.string ByteArray.empty) := Lib.cellsOf_next (by omega)
    have hset : (Lib.cellsOf done N).setIfInBounds done.length (.string rest) = Lib.cellsOf (done ++ [rest]) N := Lib.cellsOf_set (by omega) rest
    have c := cI rest
    rw [← Lib.index_one] at c
    by_cases hlt : done.length < N - 1
    · have hltz : ((done.length : Nat) : Int) < (N : Int) - 1 := by omega
      rcases HdWords.index_cases 32 rest.data.toList with ⟨h1, h2⟩ | ⟨a, b, h1, h2, h3⟩
      · rw [h2] at c
        have HL : Hid (lets (done ++ [rest]) = Lib.splitK [32] 0 (N - 1) s.data.toList) := by
          show lets (done ++ [rest]) = _
          rw [lets, List.map_append]
          exact the_last (.inl h2) HS.out
        clear h1 h2
        go_wp2_with fail
        refine (c _).mono ?_
        rintro e w1 ⟨rfl, rfl⟩
        go_wp2_with fail
        go_ret
        refine ⟨done ++ [rest], HL.out, by simp; omega, ?_, rfl⟩
        simp
      · rw [h3] at c
        have hsz : rest.size = a.length + 1 + b.length := by
          have := congrArg List.length h1
          simp only [List.length_append, List.length_cons] at this
          have e : rest.data.toList.length = rest.size := Array.length_toList
          omega
        have HA : Hid ((rest.extract 0 a.length).data.toList = a) := by
          show _ = _
          rw [Lib.extract_from_zero, h1]
          simp
        have HB : Hid ((rest.extract (a.length + 1) rest.size).data.toList = b) := by
          show _ = _
          rw [Lib.extract_to_end, h1]
          simp
        have HO : Hid (lets done ++ [a] ++ Lib.splitK [32] 0 (N - 1 - (done.length + 1)) b = Lib.splitK [32] 0 (N - 1) s.data.toList) := one_more hlt h1 h3 HS.out
        have HX : Hid ((Lib.cellsOf done N).setIfInBounds done.length (.string (rest.extract 0 a.length)) = Lib.cellsOf (done ++ [rest.extract 0 a.length]) N) := Lib.cellsOf_set (by omega) _
        generalize a.length = i at c hsz HA HB HX
        have c0 : ¬ ((i : Int) < 0) := by omega
        have c1 : (0 : Int) ≤ (i : Int) := by omega
        have c2 : (i : Int) ≤ (rest.size : Int) := by omega
        have c3 : (0 : Int) ≤ (i : Int) + 1 := by omega
        have c4 : (i : Int) + 1 ≤ (rest.size : Int) := by omega
        have HZ : Hid (rest.size = i + 1 + b.length) := hsz
        clear h1 h2 h3 hsz
        go_wp2_with fail
        refine (c _).mono ?_
        rintro e w1 ⟨rfl, rfl⟩
        go_wp2_with fail
        go_round
        case measure => simp [intOf]; omega
        case rel =>
          refine ⟨done ++ [rest.extract 0 i], rest.extract (i + 1) rest.size, rfl, by simp, by simp; omega, by rw [ByteArray.size_extract]; omega, by rw [HX.out], ?_⟩
          show lets (done ++ [rest.extract 0 i]) ++ _ = _
          have e := HO.out
          rw [lets, List.map_append, List.map_singleton, HA.out, HB.out, List.length_append, List.length_singleton]
          exact e
    · have hltz : ¬ (((done.length : Nat) : Int) < (N : Int) - 1) := by omega
      have HL : Hid (lets (done ++ [rest]) = Lib.splitK [32] 0 (N - 1) s.data.toList) := by
        show lets (done ++ [rest]) = _
        rw [lets, List.map_append]
        exact the_last (.inr (by omega)) HS.out
      clear c
      go_wp2_with fail
      go_ret
      refine ⟨done ++ [rest], HL.out, by simp; omega, ?_, rfl⟩
      simp

set_option maxHeartbeats 1000000 in
theorem cut_any (s : ByteArray) (hm : s.size ≤ maxLen - 1) (w : World) :
    Calls Tryz.prog 63 #[.string s, .string ⟨#[32]⟩, .int .i64 5] w fun e w' => ∃ (xs : List ByteArray) (N : Nat), lets xs = Lib.splitK [32] 0 (min 5 (s.data.toList.length + 1) - 1) s.data.toList ∧ xs.length ≤ N ∧ e = .returned (.slice (some ⟨w.heap.size, 0, none⟩) xs.length N) ∧ w' = w.alloc (.cells (Lib.cellsOf xs N) 9) := by
  have hsz : s.data.toList.length = s.size := Array.length_toList
  have c := gen_any s (min 5 (s.size + 1)) (by omega) hm w
  go_enter Tryz.func63, Tryz.ntmps63
  go_wp2_with fail
  refine c.mono ?_
  rintro e w1 ⟨xs, h1, h2, rfl, rfl⟩
  have HX : Hid (lets xs = Lib.splitK [32] 0 (min 5 (s.size + 1) - 1) s.data.toList ∧ xs.length ≤ min 5 (s.size + 1)) := ⟨h1, h2⟩
  clear h1 h2 c
  obtain ⟨N, HN⟩ : ∃ N : Nat, Hid (min 5 (s.size + 1) = N) := ⟨_, rfl⟩
  rw [HN.out] at HX ⊢
  go_wp2_with fail
  go_ret
  exact ⟨xs, N, by rw [hsz, HN.out]; exact HX.out.1, HX.out.2, rfl, rfl⟩

end Go.Proofs.YticadkggaanbjaaGreatDoor.WalkHdCut
