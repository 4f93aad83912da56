/-
  The walk of LsmMerges: merged it is one: of keys that were put, and dropped, there is one table, or none.
-/
import Derived.Test.YtbepfeajaoaocafGreatDoorLsAll
import Derived.Test.YtbepfeajaoaocafGreatDoorPlains
import Derived.Test.YtbepfeajaoaocafGreatDoorWalkTold
import Derived.BigQuiet
import Derived.Deep.QuietTactic
import Derived.Deep.CutBlock
namespace Go.Proofs.YtbepfeajaoaocafGreatDoor.WalkLsmMerges
open Go.RowKit
open Lists (bt strs)
open Keeps (Kept owns_row)
open Stores (Pair putE)
open WalkTold (Laid)
open WalkLs (Ls)
open Errs (errv errv0 errv_pos)
open Wides (Wide owns_wide)
open PairRows (cells)
open Letters (ltr)
open Lsms (Lsm putted flushed merged flushE mergeE newE)
open LsmLetters (X1 X2 Y0 V one off vee)
open Nums (str)

def abc : ByteArray := ⟨#[97, 98, 99, 100, 101, 102, 103, 104, 105, 106, 107, 108, 109, 110, 111, 112, 113, 114, 115, 116, 117, 118, 119, 120, 121, 122]⟩
theorem cut_one (k : Nat) (h : k < 26) : (abc.extract k (k + 1)).data = #[UInt8.ofNat (97 + k)] := by
  have hd : ∀ k : Fin 26, (abc.extract k.val (k.val + 1)).data = #[UInt8.ofNat (97 + k.val)] := by decide +kernel
  exact hd ⟨k, h⟩
theorem two (i : Nat) : abc.extract (i / 26 % 26) (i / 26 % 26 + 1) ++ abc.extract (i % 26) (i % 26 + 1) = ltr i := by
  apply ByteArray.ext
  rw [ByteArray.data_append, cut_one _ (Nat.mod_lt _ (by decide)), cut_one _ (Nat.mod_lt _ (by decide))]
  rfl
theorem below_drewN {B : Nat} {a w : World} (h : Below B a w) (n : Nat) : Below B a (w.drewN n) := ⟨h.os, h.tape, h.output, h.size, h.block⟩

set_option maxHeartbeats 1000000 in
theorem letters_any (i : Nat) (w : World) (hi : i < 110) : Calls Tryz.prog 7 #[.int .i64 (i : Int)] w fun e w' => e = .returned (.string (ltr i)) ∧ Below w.heap.size w w' := by
  have HV : Hid (abc.extract (i / 26 % 26) (i / 26 % 26 + 1) ++ abc.extract (i % 26) (i % 26 + 1) = ltr i) := two i
  obtain ⟨K, HK⟩ : ∃ K : Nat, Hid (i / 26 % 26 = K) := ⟨_, rfl⟩
  obtain ⟨M, HM⟩ : ∃ M : Nat, Hid (i % 26 = M) := ⟨_, rfl⟩
  have k1 : (i : Int) / 26 % 26 = (K : Int) := by have := HK.out; omega
  have k2 : (i : Int) % 26 = (M : Int) := by have := HM.out; omega
  have l1 : K < 26 := by rw [← HK.out]; exact Nat.mod_lt _ (by decide)
  have l2 : M < 26 := by rw [← HM.out]; exact Nat.mod_lt _ (by decide)
  rw [HK.out, HM.out] at HV
  unfold abc at HV
  have i3 : (K : Int) ≤ (K : Int) + 1 := by omega
  have i4 : (K : Int) + 1 ≤ 26 := by omega
  have i5 : (M : Int) ≤ (M : Int) + 1 := by omega
  have i6 : (M : Int) + 1 ≤ 26 := by omega
  go_enter Tryz.func7, Tryz.ntmps7
  go_wp2_with fail
  go_quiet (fail)
  go_wp2_with fail
  go_ret
  exact ⟨congrArg Ending.returned (congrArg Value.string HV.out), below_drewN (Below.refl _ _) _⟩

/-- an lsm of the call's own, and nothing old has turned -/
def At (w0 : World) (b : Nat) (x : Lsm) (w : World) : Prop := (∃ F, Ls w w0.heap.size b F x) ∧ Below w0.heap.size w0 w
theorem At.below {w0 w w' : World} {b : Nat} {x : Lsm} (h : At w0 b x w) (k : Below w.heap.size w w') : At w0 b x w' := by
  obtain ⟨⟨F, h1⟩, h2⟩ := h
  exact ⟨⟨F, h1.kept (Kept.of_below (fun _ => False) k) fun _ _ q => q⟩, bt h2 k⟩
theorem At.next {w0 w w' : World} {b : Nat} {x y : Lsm} {F : Nat → Prop} (h : Ls w w0.heap.size b F x) (hb : Below w0.heap.size w0 w) (h2 : ∃ F', Ls w' w0.heap.size b F' y ∧ ∀ k, F' k → F k ∨ w.heap.size ≤ k) (k : Kept F w w') : At w0 b y w' := by
  obtain ⟨F', h3, _⟩ := h2
  exact ⟨⟨F', h3⟩, hb.trans (k.below (fun i q => (h.foot i q).1) hb.size)⟩

set_option maxHeartbeats 16000000 in
set_option maxRecDepth 100000 in
theorem walk (n : Int) (_ : (Lit.int .i64 n).wf = true) (limit : Int) (_ : (Lit.int .i64 limit).wf = true) (w : World) (hL : Laid w) :
    Calls Tryz.prog 3 #[.int .i64 n, .int .i64 limit] w fun e w' => e = .returned (.bool true) ∧ Below w.heap.size w w' := by
  have HErr : Hid (∀ (w1 : World), Below w.heap.size w w1 → Calls Tryz.prog 11 #[errv 6, .int .i64 6] w1 fun r w' => r = .returned (.bool true) ∧ Below w1.heap.size w1 w') := fun w1 b => by
    have h := WalkTold.error_is 6 6 w1 (hL.below b)
    exact h
  clear hL
  go_enter Tryz.func3, Tryz.ntmps3
  go_wp2_with fail
  refine (WalkLs.new_any limit _ w.heap.size (Nat.le_refl _)).mono ?_
  rintro e w1 ⟨v, rfl, hv, b1⟩
  by_cases hl1 : limit < 1
  · rw [show newE limit = 1 from if_pos (.inl hl1), errv_pos 1 (by decide)]
    clear hv
    go_wp2_with fail
    go_ret
    exact ⟨rfl, b1⟩
  by_cases hl2 : 60 < limit
  · rw [show newE limit = 1 from if_pos (.inr hl2), errv_pos 1 (by decide)]
    clear hv
    go_wp2_with fail
    go_ret
    exact ⟨rfl, b1⟩
  have hE : newE limit = 0 := if_neg (by omega)
  rw [hE, errv0]
  obtain ⟨b, F, rfl, hls, _⟩ := hv hE
  obtain ⟨m, rfl⟩ := Int.eq_ofNat_of_zero_le (show (0 : Int) ≤ limit by omega)
  have HA : Hid (At w b (X1 m 0) w1) := ⟨⟨F, hls⟩, b1⟩
  have h1 : 1 ≤ m := by omega
  have h2 : m ≤ 60 := by omega
  clear hls hE hv
  by_cases hn1 : n < 0
  · go_wp2_with fail
    go_ret
    exact ⟨rfl, b1⟩
  by_cases hn2 : 100 < n
  · go_wp2_with fail
    go_ret
    exact ⟨rfl, b1⟩
  obtain ⟨N, rfl⟩ := Int.eq_ofNat_of_zero_le (Int.not_lt.1 hn1)
  have hN : N ≤ 100 := by omega
  clear b1
  go_wp2_with fail
  go_loopw [7] (fun i wr => ∃ k : Nat, k ≤ N ∧ i = .int .i64 (k : Int) ∧ Hid (At w b (X1 m k) wr)) (fun i _ => N - (intOf i).toNat)
  case atStart => exact ⟨0, Nat.zero_le _, rfl, HA⟩
  case round =>
    obtain ⟨k, hk, rfl, HK⟩ := hrel
    clear HA
    by_cases hlt : k < N
    · have j1 : (k : Int) < (N : Int) := by omega
      go_wp2_with fail
      refine (letters_any k _ (by omega)).mono ?_
      rintro e w2 ⟨rfl, b2⟩
      obtain ⟨⟨F2, ls2⟩, bb2⟩ := HK.out.below b2
      have cP := WalkLs.put_any ls2 (by have := LsmLetters.size1 m k; omega) (ltr k) ⟨#[118]⟩ (by rw [Letters.ltr_size]; decide) (by decide)
      rw [show putE (X1 m k).young ⟨ltr k, ⟨#[118]⟩, false⟩ = 0 from LsmLetters.ok1 h1 h2 k, errv0] at cP
      clear b2 HK
      go_wp2_with fail
      refine cP.mono ?_
      rintro e w3 ⟨rfl, hx, hk3⟩
      have HN : Hid (At w b (X1 m (k + 1)) w3) := At.next ls2 bb2 hx hk3
      clear cP hx hk3 ls2 bb2
      go_wp2_with fail
      go_roundw
      case rel => exact ⟨k + 1, by omega, by go_num, HN⟩
      case measure => simp [intOf]; omega
    · have j1 : ¬ (k : Int) < (N : Int) := by omega
      obtain rfl : k = N := by omega
      have hsz := LsmLetters.size1 m k
      go_upto_region 9 with fail
      go_cut [55] from 48 to 54 (fun v wc => v = .bool false ∧ At w b (flushed (X1 m k)) wc)
      case first => as_aux_lemma =>
        obtain ⟨⟨F2, ls2⟩, bb2⟩ := HK.out
        have cY := WalkLs.young_any ls2
        clear ls2 bb2
        go_wp2_with fail
        refine cY.mono ?_
        rintro e w2 ⟨rfl, b2⟩
        have HA2 : Hid (At w b (X1 m k) w2) := HK.out.below b2
        clear cY b2
        by_cases hy : (X1 m k).young = []
        · have HF : Hid (flushed (X1 m k) = X1 m k) := if_pos hy
          rw [hy]
          clear hy
          go_wp2_with fail
          go_meet
          case rel => exact ⟨rfl, by rw [HF.out]; exact HA2.out⟩
        · have hp : (0 : Int) < ((X1 m k).young.length : Int) := by
            have := List.length_pos_iff.2 hy
            omega
          obtain ⟨⟨F3, ls3⟩, bb3⟩ := HA2.out
          have cF := WalkLs.flush_any ls3 (by omega)
          rw [show flushE (X1 m k) = 0 from if_neg hy, errv0] at cF
          generalize ((X1 m k).young.length : Int) = L at hp
          clear hy
          go_wp2_with fail
          refine cF.mono ?_
          rintro e w3 ⟨rfl, hx, hk3⟩
          have HN : Hid (At w b (flushed (X1 m k)) w3) := At.next ls3 bb3 hx hk3
          clear cF hx hk3 ls3 bb3
          go_wp2_with fail
          go_meet
          case rel => exact ⟨rfl, HN.out⟩
      obtain ⟨rfl, hA⟩ := hcut
      have hsf := Lsms.size_flush (X1 m k)
      obtain ⟨⟨F4, ls4⟩, bb4⟩ := hA
      have cM := WalkLs.merge_any ls4 (by omega)
      rw [(LsmLetters.merge1 h1 h2 hN).1] at cM
      clear HK
      go_wp2_with fail
      refine cM.mono ?_
      rintro e w5 ⟨rfl, hx, hk5⟩
      have HA5 : Hid (At w b (X2 m k 0) w5) := At.next ls4 bb4 hx hk5
      clear cM hx hk5 ls4 bb4 hsf
      by_cases hz : k = 0
      · rw [if_pos hz]
        subst hz
        go_wp2_with fail
        refine (HErr.out _ HA5.out.2).mono ?_
        rintro e w6 ⟨rfl, b6⟩
        go_wp2_with fail
        go_ret
        exact ⟨rfl, bt HA5.out.2 b6⟩
      · rw [if_neg hz, errv0]
        have q0 : ((k : Int) == 0) = false := by rw [beq_eq_false_iff_ne]; omega
        obtain ⟨⟨F6, ls6⟩, bb6⟩ := HA5.out
        have hs2 := LsmLetters.size2 m k 0
        have cT := WalkLs.tables_any ls6 (by omega)
        rw [show (X2 m k 0).levels = [V k] from (LsmLetters.merge1 h1 h2 hN).2 hz] at cT
        clear ls6 bb6 HErr
        go_wp2_with fail
        refine cT.mono ?_
        rintro e w6 ⟨v, rfl, o6, b6⟩
        obtain ⟨a6, c6, rfl, _⟩ := owns_row o6
        have HA6 : Hid (At w b (X2 m k 0) w6) := HA5.out.below b6
        clear cT o6 b6 HA5
        obtain ⟨⟨F7, ls7⟩, bb7⟩ := HA6.out
        have cA := WalkLs.all_any ls7 (by omega)
        rw [show (X2 m k 0).all = V k from (LsmLetters.all1 h1 h2 hN).2, LsmLetters.V_length] at cA
        clear ls7 bb7
        go_wp2_with fail
        refine cA.mono ?_
        rintro e w7 ⟨v, rfl, o7, b7⟩
        obtain ⟨a7, c7, rfl, _⟩ := owns_wide o7
        have HA7 : Hid (At w b (X2 m k 0) w7) := HA6.out.below b7
        clear cA o7 b7 HA6
        go_wp2_with fail
        go_loopw [8] (fun i wr => ∃ j : Nat, j ≤ k ∧ i = .int .i64 (j : Int) ∧ Hid (At w b (X2 m k j) wr)) (fun i _ => k - (intOf i).toNat)
        case atStart => exact ⟨0, Nat.zero_le _, rfl, HA7⟩
        case round =>
          obtain ⟨j, hj, rfl, HK⟩ := hrel
          clear HA7
          by_cases hlt2 : j < k
          · have j2 : (j : Int) < (k : Int) := by omega
            go_wp2_with fail
            refine (letters_any j _ (by omega)).mono ?_
            rintro e w8 ⟨rfl, b8⟩
            obtain ⟨⟨F8, ls8⟩, bb8⟩ := HK.out.below b8
            have cD := WalkLs.drop_any ls8 (by have := LsmLetters.size2 m k j; omega) (ltr j) (by rw [Letters.ltr_size]; decide)
            rw [show putE (X2 m k j).young ⟨ltr j, ⟨#[]⟩, true⟩ = 0 from LsmLetters.ok2 h1 h2 k j, errv0] at cD
            clear b8 HK
            go_wp2_with fail
            refine cD.mono ?_
            rintro e w9 ⟨rfl, hx, hk9⟩
            have HN : Hid (At w b (X2 m k (j + 1)) w9) := At.next ls8 bb8 hx hk9
            clear cD hx hk9 ls8 bb8
            go_wp2_with fail
            go_roundw
            case rel => exact ⟨j + 1, by omega, by go_num, HN⟩
            case measure => simp [intOf]; omega
          · have j2 : ¬ (j : Int) < (k : Int) := by omega
            obtain rfl : j = k := by omega
            have hsz2 := LsmLetters.size2 m j j
            obtain ⟨g1, g2, g3⟩ := LsmLetters.end2 h1 h2 hN hz
            go_upto_region 21 with fail
            go_cut [94] from 87 to 93 (fun v wc => v = .bool false ∧ At w b (flushed (X2 m j j)) wc)
            case first => as_aux_lemma =>
              obtain ⟨⟨F2, ls2⟩, bb2⟩ := HK.out
              have cY := WalkLs.young_any ls2
              clear ls2 bb2 g1 g2 g3
              go_wp2_with fail
              refine cY.mono ?_
              rintro e w2 ⟨rfl, b2⟩
              have HA2 : Hid (At w b (X2 m j j) w2) := HK.out.below b2
              clear cY b2
              by_cases hy : (X2 m j j).young = []
              · have HF : Hid (flushed (X2 m j j) = X2 m j j) := if_pos hy
                rw [hy]
                clear hy
                go_wp2_with fail
                go_meet
                case rel => exact ⟨rfl, by rw [HF.out]; exact HA2.out⟩
              · have hp : (0 : Int) < ((X2 m j j).young.length : Int) := by
                  have := List.length_pos_iff.2 hy
                  omega
                obtain ⟨⟨F3, ls3⟩, bb3⟩ := HA2.out
                have cF := WalkLs.flush_any ls3 (by omega)
                rw [show flushE (X2 m j j) = 0 from if_neg hy, errv0] at cF
                generalize ((X2 m j j).young.length : Int) = L at hp
                clear hy
                go_wp2_with fail
                refine cF.mono ?_
                rintro e w3 ⟨rfl, hx, hk3⟩
                have HN : Hid (At w b (flushed (X2 m j j)) w3) := At.next ls3 bb3 hx hk3
                clear cF hx hk3 ls3 bb3
                go_wp2_with fail
                go_meet
                case rel => exact ⟨rfl, HN.out⟩
            obtain ⟨rfl, hA⟩ := hcut
            have hsf := Lsms.size_flush (X2 m j j)
            have hsm := Lsms.size_merge (flushed (X2 m j j))
            obtain ⟨⟨Fa, lsa⟩, bba⟩ := hA
            have cM := WalkLs.merge_any lsa (by omega)
            rw [g1, errv0] at cM
            clear HK
            go_wp2_with fail
            refine cM.mono ?_
            rintro e wa ⟨rfl, hx, hka⟩
            have HAa : Hid (At w b (merged (flushed (X2 m j j))) wa) := At.next lsa bba hx hka
            clear cM hx hka lsa bba
            obtain ⟨⟨Fb, lsb⟩, bbb⟩ := HAa.out
            have cT := WalkLs.tables_any lsb (by omega)
            rw [g2] at cT
            clear lsb bbb
            go_wp2_with fail
            refine cT.mono ?_
            rintro e wb ⟨v, rfl, ob, b6⟩
            obtain ⟨a6, c6, rfl, _⟩ := owns_row ob
            have HAb : Hid (At w b (merged (flushed (X2 m j j))) wb) := HAa.out.below b6
            clear cT ob b6 HAa
            obtain ⟨⟨Fc, lsc⟩, bbc⟩ := HAb.out
            have cA := WalkLs.all_any lsc (by omega)
            rw [g3] at cA
            clear lsc bbc
            go_wp2_with fail
            refine cA.mono ?_
            rintro e wd ⟨v, rfl, od, b7⟩
            obtain ⟨a7, c7, rfl, _⟩ := owns_wide od
            have HBd : Hid (Below w.heap.size w wd) := bt HAb.out.2 b7
            clear cA od b7 HAb
            go_wp2_with fail
            go_ret
            exact ⟨rfl, HBd.out⟩

end Go.Proofs.YtbepfeajaoaocafGreatDoor.WalkLsmMerges
