/-
  The law RunBegins: the answers to a beginning are a beginning of the answers.
-/
import Derived.Test.YtfpkngpgmllhnaaGreatDoorRuEnd
set_option maxRecDepth 100000
namespace Go.Proofs.YtfpkngpgmllhnaaGreatDoor.WalkRunBegins
open Go.RowKit
open Lists (bt)
open WalkHdLib (Tabs)
open WalkSeNum (Syn)
open WalkTold (Laid)
open Nums (str)

theorem fact : Runs.run [97, 100, 100, 32, 51, 32, 104, 105, 10, 97, 115, 107, 32, 101, 110, 116, 114, 121, 32, 48, 10, 102, 108, 121, 10, 119, 97, 110, 116, 10] = [111, 107, 10, 51, 32, 104, 105, 10, 98, 97, 100, 10, 49, 32, 48, 32, 48, 10] := by kernel_rfl
/-- how far the beginning is told -/
def Ends (t : ByteArray) (K : Nat) : Prop := K = 0 ∨ (0 < K ∧ t.data.toList[K - 1]? = some 10)

set_option maxHeartbeats 8000000 in
theorem walk (t : ByteArray) (_ : t.size ≤ 140737488351232) (many : Int) (_ : (Lit.int .i64 many).wf = true) (w : World) (hL : Laid w) (hK : Tabs w) (hY : Syn w) :
    Calls Tryz.prog 4 #[.string t, .int .i64 many] w fun e w' => e = .returned (.bool true) ∧ Below w.heap.size w w' := by
  have hsz : t.data.toList.length = t.size := Array.length_toList
  have HR : Hid (∀ (s : ByteArray) (w' : World), Below w.heap.size w w' → Calls Tryz.prog 6 #[.string s] w' fun e w'' => e = .returned (.string (str (Runs.run s.data.toList))) ∧ Below w'.heap.size w' w'') := fun s w' q => WalkRuRun.run_any s w' (hK.below q) (hY.below q) (hL.below q)
  have cF := HR.out ⟨#[97, 100, 100, 32, 51, 32, 104, 105, 10, 97, 115, 107, 32, 101, 110, 116, 114, 121, 32, 48, 10, 102, 108, 121, 10, 119, 97, 110, 116, 10]⟩ w (Below.refl _ _)
  have ef : str (Runs.run (⟨#[97, 100, 100, 32, 51, 32, 104, 105, 10, 97, 115, 107, 32, 101, 110, 116, 114, 121, 32, 48, 10, 102, 108, 121, 10, 119, 97, 110, 116, 10]⟩ : ByteArray).data.toList) = ⟨#[111, 107, 10, 51, 32, 104, 105, 10, 98, 97, 100, 10, 49, 32, 48, 32, 48, 10]⟩ := congrArg str fact
  rw [ef] at cF
  clear ef hL hK hY
  by_cases h3 : 3000 < t.size
  · have i1 : (t.size : Int) > 3000 := by omega
    have i2 : (3000 : Int) < (t.size : Int) := i1
    have e3 : str (Runs.run t.data.toList) = ⟨#[116, 111, 111, 32, 108, 111, 110, 103, 10]⟩ := by
      rw [show Runs.run t.data.toList = Runs.longT from if_pos (by omega)]
      rfl
    have HT : Hid (∀ w', Below w.heap.size w w' → Calls Tryz.prog 6 #[.string t] w' fun e w'' => e = .returned (.string ⟨#[116, 111, 111, 32, 108, 111, 110, 103, 10]⟩) ∧ Below w'.heap.size w' w'') := fun w' q => by
      have := HR.out t w' q
      rw [e3] at this
      exact this
    clear h3 hsz HR e3
    go_enter Tryz.func4, Tryz.ntmps4
    go_wp2_with fail
    refine cF.mono ?_
    rintro e w1 ⟨rfl, b1⟩
    have HB1 : Hid (Below w.heap.size w w1) := b1
    clear cF b1
    go_wp2_with fail
    refine (HT.out _ HB1.out).mono ?_
    rintro e w2 ⟨rfl, b2⟩
    have HB2 : Hid (Below w.heap.size w w2) := bt HB1.out b2
    clear b2
    go_wp2_with fail
    go_ret
    exact ⟨rfl, HB2.out⟩
  · have i1 : ¬ (t.size : Int) > 3000 := by omega
    have i2 : ¬ (3000 : Int) < (t.size : Int) := i1
    have ht3 : t.size ≤ 3000 := by omega
    have HP : Hid (∀ K, K ≤ t.size → (K = t.size ∨ Ends t K) → Runs.run (t.extract 0 K).data.toList <+: Runs.run t.data.toList) := fun K hk h => by
      have e : (t.extract 0 K).data.toList = t.data.toList.take K := by simp
      rw [e]
      refine Runs.run_begins (by omega) (by omega) ?_
      rcases h with h | h | h
      · exact .inl (by omega)
      · exact .inr (.inl h)
      · exact .inr (.inr h)
    clear h3
    go_enter Tryz.func4, Tryz.ntmps4
    go_wp2_with fail
    refine cF.mono ?_
    rintro e w1 ⟨rfl, b1⟩
    have HB1 : Hid (Below w.heap.size w w1) := b1
    clear cF b1
    go_wp2_with fail
    go_loopw [7, 8] (fun k n wr => ∃ (K : Nat) (N : Int), K ≤ t.size ∧ k = .int .i64 (K : Int) ∧ n = .int .i64 N ∧ 0 ≤ N ∧ N ≤ (K : Int) ∧ Hid (N < many ∨ Ends t K) ∧ wr = w1) (fun k _ _ => t.size - (intOf k).toNat)
    case atStart => exact ⟨0, 0, Nat.zero_le _, rfl, rfl, by omega, by omega, .inr (.inl rfl), rfl⟩
    case round =>
      obtain ⟨K, N, hK, rfl, rfl, hN0, hN1, HE, hwr⟩ := hrel
      subst hwr
      by_cases hl : K < t.size
      · have i3 : (K : Int) < (t.size : Int) := by omega
        by_cases hm : N < many
        · have hx : t.data.toList[K]? = some (t[K]'hl) := by
            rw [Array.getElem?_toList]
            exact Array.getElem?_eq_getElem hl
          have i4 : (0 : Int) ≤ (K : Int) := by omega
          have w1x : IntKind.i64.wrap ((K : Int) + 1) = (K : Int) + 1 := by rw [IntKind.wrap_i64]; omega
          have w2x : IntKind.i64.wrap (N + 1) = N + 1 := by rw [IntKind.wrap_i64]; omega
          have z0 : ∀ h, t[K]'h = t[K]'hl := fun _ => rfl
          generalize t[K]'hl = x at hx z0
          by_cases hc : x = 10
          · subst hc
            have HE2 : Hid (N + 1 < many ∨ Ends t (K + 1)) := .inr (.inr ⟨by omega, hx⟩)
            clear hx HE HP HR
            go_wp2_with fail
            go_roundw
            case rel => exact ⟨K + 1, N + 1, by omega, by go_num, rfl, by omega, by omega, HE2, trivial⟩
            case measure => simp [intOf]; omega
          · have hq : ((x.toNat : Int) == 10) = false := by
              rw [beq_eq_false_iff_ne]
              intro h
              exact hc (UInt8.toNat_inj.1 (by show x.toNat = 10; omega))
            have HE2 : Hid (N < many ∨ Ends t (K + 1)) := .inl hm
            clear hx HE hc HP HR
            go_wp2_with fail
            go_roundw
            case rel => exact ⟨K + 1, N, by omega, by go_num, rfl, by omega, by omega, HE2, trivial⟩
            case measure => simp [intOf]; omega
        · have HEnd : Hid (K = t.size ∨ Ends t K) := by
            rcases HE.out with q | q
            · exact absurd q hm
            · exact .inr q
          have HPx : Hid (Runs.run (t.extract 0 K).data.toList <+: Runs.run t.data.toList) := HP.out K hK HEnd.out
          have cA := HR.out (t.extract 0 K) wr HB1.out
          have HB' : Hid (∀ w', Below w.heap.size w w' → Calls Tryz.prog 6 #[.string t] w' fun e w'' => e = .returned (.string (str (Runs.run t.data.toList))) ∧ Below w'.heap.size w' w'') := fun w' q => HR.out t w' q
          generalize Runs.run (t.extract 0 K).data.toList = RA at HPx cA
          generalize Runs.run t.data.toList = RB at HPx HB'
          have HLe : Hid (RA.length ≤ RB.length) := HPx.out.length_le
          have HEx : Hid ((str RB).extract 0 RA.length = str RA) := by
            show _ = _
            obtain ⟨q, hq⟩ := HPx.out
            rw [← hq]
            unfold Nums.str
            apply ByteArray.ext
            apply Array.ext'
            simp
          have hsa : (str RA).size = RA.length := Nums.str_size _
          have hsb : (str RB).size = RB.length := Nums.str_size _
          generalize str RA = SA at cA HEx hsa
          generalize str RB = SB at HB' HEx hsb
          have i5 : (SA.size : Int) ≤ (SB.size : Int) := by have := HLe.out; omega
          have i6 : SA.size ≤ SB.size := by have := HLe.out; omega
          rw [← hsa] at HEx
          clear HPx HLe hsa hsb HP HR HEnd HE hN0 hN1
          have j1 : (0 : Int) ≤ (K : Int) := by omega
          have j2 : (K : Int) ≤ (t.size : Int) := by omega
          go_wp2_with fail
          refine cA.mono ?_
          rintro e w2 ⟨rfl, b2⟩
          have HB2 : Hid (Below w.heap.size w w2) := bt HB1.out b2
          clear cA b2
          go_wp2_with fail
          refine (HB'.out _ HB2.out).mono ?_
          rintro e w3 ⟨rfl, b3⟩
          have HB3 : Hid (Below w.heap.size w w3) := bt HB2.out b3
          clear HB' b3
          go_wp2_with fail
          go_ret
          refine ⟨?_, HB3.out⟩
          rw [HEx.out]
          simp
      · have i3 : ¬ (K : Int) < (t.size : Int) := by omega
        have HEnd : Hid (K = t.size ∨ Ends t K) := .inl (by omega)
        have HPx : Hid (Runs.run (t.extract 0 K).data.toList <+: Runs.run t.data.toList) := HP.out K hK HEnd.out
        have cA := HR.out (t.extract 0 K) wr HB1.out
        have HB' : Hid (∀ w', Below w.heap.size w w' → Calls Tryz.prog 6 #[.string t] w' fun e w'' => e = .returned (.string (str (Runs.run t.data.toList))) ∧ Below w'.heap.size w' w'') := fun w' q => HR.out t w' q
        generalize Runs.run (t.extract 0 K).data.toList = RA at HPx cA
        generalize Runs.run t.data.toList = RB at HPx HB'
        have HLe : Hid (RA.length ≤ RB.length) := HPx.out.length_le
        have HEx : Hid ((str RB).extract 0 RA.length = str RA) := by
          show _ = _
          obtain ⟨q, hq⟩ := HPx.out
          rw [← hq]
          unfold Nums.str
          apply ByteArray.ext
          apply Array.ext'
          simp
        have hsa : (str RA).size = RA.length := Nums.str_size _
        have hsb : (str RB).size = RB.length := Nums.str_size _
        generalize str RA = SA at cA HEx hsa
        generalize str RB = SB at HB' HEx hsb
        have i5 : (SA.size : Int) ≤ (SB.size : Int) := by have := HLe.out; omega
        have i6 : SA.size ≤ SB.size := by have := HLe.out; omega
        rw [← hsa] at HEx
        clear HPx HLe hsa hsb HP HR HEnd HE hN0 hN1
        have j1 : (0 : Int) ≤ (K : Int) := by omega
        have j2 : (K : Int) ≤ (t.size : Int) := by omega
        go_wp2_with fail
        refine cA.mono ?_
        rintro e w2 ⟨rfl, b2⟩
        have HB2 : Hid (Below w.heap.size w w2) := bt HB1.out b2
        clear cA b2
        go_wp2_with fail
        refine (HB'.out _ HB2.out).mono ?_
        rintro e w3 ⟨rfl, b3⟩
        have HB3 : Hid (Below w.heap.size w w3) := bt HB2.out b3
        clear HB' b3
        go_wp2_with fail
        go_ret
        refine ⟨?_, HB3.out⟩
        rw [HEx.out]
        simp

end Go.Proofs.YtfpkngpgmllhnaaGreatDoor.WalkRunBegins
