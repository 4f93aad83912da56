/-
  The walk of TableEmpty: a table of no pairs has no key; of some each is found, and none between.
-/
import Derived.Test.YtinjkmimaokffafDoorWalkTab
import Derived.Test.YtinjkmimaokffafDoorTabLetters
import Derived.Test.YtinjkmimaokffafDoorWalkTold
import Derived.BigQuiet
import Derived.Deep.QuietTactic
import Derived.Deep.CutBlock
import Derived.Deep.DeepMust
import Derived.Laws.StructEq
import Derived.Lib.QuietBelow
import Derived.Laws.BitsLemmas
namespace Go.Proofs.YtinjkmimaokffafDoor.WalkTableEmpty
open Go.RowKit
open Lists (bt)
open Keeps (Kept owns_kept)
open Stores (Pair)
open WalkTold (Laid)
open Errs (errv errv0 errv_pos)
open Wides (Wide owns_wide)
open PairRows (cells cells_append)
open Letters (ltr)
open TabLetters (V one vee zed)
open Tabs (pairsE buildV openE openT getP getPE firstK lastK)
open Nums (str)
open Go.Sort (grow)

theorem aggP (w : World) : (isAgg 25).run Tryd.prog w = .ok true w := by kernel_rfl
theorem sizeP (w : World) : (sizeOf 25).run Tryd.prog w = .ok 3 w := by kernel_rfl
theorem infoP : (Tryd.prog.info? 25).map (fun i => (i.zero, i.size, i.bytes)) = some (some (.agg #[.string ⟨#[]⟩, .string ⟨#[]⟩, .bool false]), 3, 40) := by kernel_rfl
def abc : ByteArray := ⟨#[97, 98, 99, 100, 101, 102, 103, 104, 105, 106, 107, 108, 109, 110, 111, 112, 113, 114, 115, 116, 117, 118, 119, 120, 121, 122]⟩
theorem cut_one (k : Nat) (h : k < 26) : (abc.extract k (k + 1)).data = #[UInt8.ofNat (97 + k)] := by
  have hd : ∀ k : Fin 26, (abc.extract k.val (k.val + 1)).data = #[UInt8.ofNat (97 + k.val)] := by decide +kernel
  exact hd ⟨k, h⟩
theorem two (i : Nat) : abc.extract (i / 26 % 26) (i / 26 % 26 + 1) ++ abc.extract (i % 26) (i % 26 + 1) = ltr i := by
  apply ByteArray.ext
  rw [ByteArray.data_append, cut_one _ (Nat.mod_lt _ (by decide)), cut_one _ (Nat.mod_lt _ (by decide))]
  rfl
theorem below_drewN {B : Nat} {a w : World} (h : Below B a w) (n : Nat) : Below B a (w.drewN n) := ⟨h.os, h.tape, h.output, h.size, h.block⟩

set_option maxHeartbeats 1000000 in
theorem letters_any (i : Nat) (w : World) (hi : i < 70) : Calls Tryd.prog 4 #[.int .i64 (i : Int)] w fun e w' => e = .returned (.string (ltr i)) ∧ Below w.heap.size w w' := by
  have HV : Hid (abc.extract (i / 26 % 26) (i / 26 % 26 + 1) ++ abc.extract (i % 26) (i % 26 + 1) = ltr i) := two i
  obtain ⟨K, HK⟩ : ∃ K : Nat, Hid (i / 26 % 26 = K) := ⟨_, rfl⟩
  obtain ⟨M, HM⟩ : ∃ M : Nat, Hid (i % 26 = M) := ⟨_, rfl⟩
  have k1 : (i : Int) / 26 % 26 = (K : Int) := by have := HK.out; omega
  have k2 : (i : Int) % 26 = (M : Int) := by have := HM.out; omega
  have l1 : K < 26 := by rw [← HK.out]; exact Nat.mod_lt _ (by decide)
  have l2 : M < 26 := by rw [← HM.out]; exact Nat.mod_lt _ (by decide)
  rw [HK.out, HM.out] at HV
  unfold abc at HV
  have i3 : (K : Int) ≤ (K : Int) + 1 := by omega
  have i4 : (K : Int) + 1 ≤ 26 := by omega
  have i5 : (M : Int) ≤ (M : Int) + 1 := by omega
  have i6 : (M : Int) + 1 ≤ 26 := by omega
  go_enter Tryd.func4, Tryd.ntmps4
  go_wp2_with fail
  go_quiet (fail)
  go_wp2_with fail
  go_ret
  exact ⟨congrArg Ending.returned (congrArg Value.string HV.out), below_drewN (Below.refl _ _) _⟩

theorem beq_yes (x : ByteArray) : (x.toList == x.toList) = true := beq_self_eq_true _
theorem cell_three_new (w : World) (x y z : Value) (t : TypeId) : ∀ j u, [x, y, z][j]? = some u → (w.alloc (.cells #[x, y, z] t)).cell? ((⟨w.heap.size, 0, none⟩ : Addr).add j) = some u := by
  intro j u hj
  match j, hj with
  | 0, hj => simp at hj; subst hj; simp [Addr.add]
  | 1, hj => simp at hj; subst hj; simp [Addr.add]
  | 2, hj => simp at hj; subst hj; simp [Addr.add]
/-- a pair is itself -/
theorem pair_eql (k v : ByteArray) (g : Bool) (w : World) : (binOp .eql 25 (.agg #[.string k, .string v, .bool g]) (.agg #[.string k, .string v, .bool g])).run Tryd.prog w = .ok (.bool true) w := by
  have hf : Tryd.prog.underlying 25 = some (.struct (Tryd.prog.fieldsOf 25)) := by kernel_rfl
  have hp : Tryd.prog.stoodInHeld 25 = false := by kernel_rfl
  rw [run_eql_struct, run_equalIn_agg w 9999 _ _ _ hf hp]
  simp only [Program.fieldsOf, Tryd.underlying25]
  rw [show (9999 : Nat) = 9998 + 1 from rfl]
  generalize (9998 : Nat) = d
  have h1 : (Op.equalIn (d + 1) 9 (.string k) (.string k)).run Tryd.prog w = .ok true w := by rw [run_equalIn_string w d _ k k Tryd.underlying9, beq_yes]
  have h2 : (Op.equalIn (d + 1) 9 (.string v) (.string v)).run Tryd.prog w = .ok true w := by rw [run_equalIn_string w d _ v v Tryd.underlying9, beq_yes]
  have h3 : (Op.equalIn (d + 1) 4 (.bool g) (.bool g)).run Tryd.prog w = .ok true w := by rw [run_equalIn_bool' w d _ g g Tryd.underlying4, beq_self_eq_true]
  have p1 : (part 9 #[.string k, .string v, .bool g] 0).run Tryd.prog w = .ok (.string k) w := by simp [part]
  have p2 : (part 9 #[.string k, .string v, .bool g] 1).run Tryd.prog w = .ok (.string v) w := by simp [part]
  have p3 : (part 4 #[.string k, .string v, .bool g] 2).run Tryd.prog w = .ok (.bool g) w := by simp [part]
  simp [Op.eqFields, p1, p2, p3, h1, h2, h3]

set_option maxHeartbeats 16000000 in
set_option maxRecDepth 100000 in
theorem walk (n : Int) (_ : (Lit.int .i64 n).wf = true) (at' : Int) (_ : (Lit.int .i64 at').wf = true) (w : World) (hL : Laid w) :
    Calls Tryd.prog 3 #[.int .i64 n, .int .i64 at'] w fun e w' => e = .returned (.bool true) ∧ Below w.heap.size w w' := by
  have a23 := aggP
  have z23 := sizeP
  obtain ⟨i0, hi, hz0, hz1, hz2⟩ := info_parts infoP
  have HErr : Hid (∀ (w1 : World), Below w.heap.size w w1 → Calls Tryd.prog 9 #[errv 5, .int .i64 5] w1 fun r w' => r = .returned (.bool true) ∧ Below w1.heap.size w1 w') := fun w1 b => by
    have h := WalkTold.error_is 5 5 w1 (hL.below b)
    exact h
  clear hL
  by_cases h0 : n < 0
  · go_enter Tryd.func3, Tryd.ntmps3
    go_wp2_with fail
    go_ret
    exact ⟨rfl, Below.refl _ _⟩
  by_cases h1 : 60 < n
  · go_enter Tryd.func3, Tryd.ntmps3
    go_wp2_with fail
    go_ret
    exact ⟨rfl, Below.refl _ _⟩
  obtain ⟨N, rfl⟩ := Int.eq_ofNat_of_zero_le (Int.not_lt.1 h0)
  have hN : N ≤ 60 := by omega
  go_enter Tryd.func3, Tryd.ntmps3
  go_wp2_with fail
  go_loopw [5, 6] (fun v i wr => ∃ k : Nat, k ≤ N ∧ i = .int .i64 (k : Int) ∧ wr.ownsRow w.heap.size 25 3 v k (cells (V k)) ∧ Below w.heap.size w wr) (fun _ i _ => N - (intOf i).toNat)
  case atStart => exact ⟨0, Nat.zero_le _, rfl, World.ownsRow_nil _ _ _ _, Below.refl _ _⟩
  case round =>
    obtain ⟨k, hk, rfl, hown, hb⟩ := hrel
    have HO : Hid (wr.ownsRow w.heap.size 25 3 u5 k (cells (V k))) := hown
    have HB : Hid (Below w.heap.size w wr) := hb
    clear hown hb
    by_cases hlt : k < N
    · have j1 : (k : Int) < (N : Int) := by omega
      go_wp2_with fail
      refine (letters_any k _ (by omega)).mono ?_
      rintro e w2 ⟨rfl, b2⟩
      have HO2 : Hid (w2.ownsRow w.heap.size 25 3 u5 k (cells (V k))) := owns_kept HO.out (Kept.of_below (fun _ => False) b2) fun _ _ q => q
      have HB2 : Hid (Below w.heap.size w w2) := bt HB.out b2
      have HX : Hid (cells (V (k + 1)) = cells (V k) ++ [.string (ltr k), .string ⟨#[118]⟩, .bool false]) := by show _ = _; rw [TabLetters.V_succ, cells_append]; rfl
      generalize ltr k = q at HX
      clear b2 HO HB
      go_wp2_with (at_builtin; go_must (refine wpList_append_own _ rfl (.tmp 25) (.tmp 29) 22 rfl w.heap.size 25 i0 (.agg #[.string ⟨#[]⟩, .string ⟨#[]⟩, .bool false]) 3 40 Tryd.underlying22 hi hz0 hz1 hz2 rfl (by decide) _ _ _ rfl (HO2.out.alloc _) ⟨_, 0, none⟩ 1 1 [.string q, .string ⟨#[118]⟩, .bool false] rfl rfl (cell_three_new _ _ _ _ _) (fun u hu => by simp at hu; rcases hu with rfl | rfl | rfl <;> rfl) (by unfold maxLen; omega) (by omega) (by have := HB2.out.size; simp; omega) ?_); intro v1 wn o1 g1 z1; clear z1)
      have HBN : Hid (Below w.heap.size w wn) := (HB2.out.alloc HB2.out.size _).grown g1 (by have := HB2.out.size; simp; omega) (fun k hk => (HO2.out.lt k hk).1)
      have HON : Hid (wn.ownsRow w.heap.size 25 3 v1 (k + 1) (cells (V (k + 1)))) := by
        rw [HX.out]
        exact o1
      clear g1 o1 HO2 HB2
      go_roundw
      case rel => exact ⟨k + 1, by omega, by go_num, HON.out, HBN.out⟩
      case measure => simp [intOf]; omega
    · have j1 : ¬ (k : Int) < (N : Int) := by omega
      obtain rfl : k = N := by omega
      obtain ⟨a5, c5, rfl, r5⟩ := owns_wide HO.out
      have HR5 : Hid (Wide 3 wr a5 k c5 (cells (V k))) := r5
      clear r5 HO
      go_wp2_with fail
      refine (WalkTab.build_any (V k) a5 k c5 _ HR5.out (fun e he => by obtain ⟨i, _, rfl⟩ := TabLetters.V_mem he; exact ⟨by show (ltr i).size ≤ maxLen; rw [Letters.ltr_size]; decide, by show vee.size ≤ maxLen; decide⟩) (by omega)).mono ?_
      rintro e w2 ⟨rfl, b2⟩
      rw [TabLetters.V_ok k hN, errv0]
      have HO2 : Hid (openT (str (buildV (V k))).data.toList = some (V k)) := TabLetters.V_open k hN
      have HS2 : Hid ((str (buildV (V k))).size ≤ 2097152) := TabLetters.V_size k hN
      generalize str (buildV (V k)) = X at HO2 HS2
      have HB2 : Hid (Below wr.heap.size wr w2) := b2
      clear b2
      go_wp2_with fail
      refine (WalkTab.open_any X _ HS2.out).mono ?_
      rintro e w3 ⟨t, rfl, ht, b3⟩
      obtain ⟨b, rfl, _, htb⟩ := ht (V k) HO2.out
      rw [(Tabs.open_is HO2.out).1, errv0]
      have HB3 : Hid (Below wr.heap.size wr w3) := bt HB2.out b3
      clear ht b3 HB2 HO2 HS2
      go_wp2_with fail
      refine (WalkTab.all_any (V k) b _ htb).mono ?_
      rintro e w4 ⟨v, rfl, o4, b4⟩
      obtain ⟨a4, c4, rfl, _⟩ := owns_wide o4
      rw [TabLetters.V_length]
      have htb4 := htb.below b4
      have HB4 : Hid (Below wr.heap.size wr w4) := bt HB3.out b4
      clear o4 b4 htb HB3
      go_wp2_with fail
      refine (WalkTab.get_any (V k) b zed _ htb4).mono ?_
      rintro e w5 ⟨rfl, b5⟩
      rw [TabLetters.V_zed]
      generalize getP (V k) zed = P
      obtain ⟨pk, pv, pg⟩ := P
      simp only
      have HB5 : Hid (Below wr.heap.size wr (w5.alloc (.cells #[.string pk, .string pv, .bool pg] 25))) := (bt HB4.out b5).alloc (bt HB4.out b5).size _
      have HTb5 : Hid (WalkTab.Tb (w5.alloc (.cells #[.string pk, .string pv, .bool pg] 25)) b (V k)) := (htb4.below b5).below ((Below.refl _ _).alloc (Nat.le_refl _) _)
      clear b5 htb4 HB4
      go_wp2_with fail
      generalize w5.alloc (.cells #[.string pk, .string pv, .bool pg] 25) = w6 at HB5 HTb5 ⊢
      refine (HErr.out _ (bt HB.out HB5.out)).mono ?_
      rintro e w7 ⟨rfl, b7⟩
      have HB7 : Hid (Below wr.heap.size wr w7) := bt HB5.out b7
      have HTb7 : Hid (WalkTab.Tb w7 b (V k)) := HTb5.out.below b7
      clear b7 HB5 HTb5 HErr
      rcases Nat.eq_zero_or_pos k with rfl | hpos
      · have e0 : ((⟨#[]⟩ : ByteArray).toList == []) = true := by decide +kernel
        go_wp2_with fail
        refine (WalkTab.first_any (V 0) b _ HTb7.out).mono ?_
        rintro e w8 ⟨rfl, b8⟩
        rw [show firstK (V 0) = ⟨#[]⟩ from rfl]
        have HTb8 := HTb7.out.below b8
        go_wp2_with fail
        refine (WalkTab.last_any (V 0) b _ HTb8).mono ?_
        rintro e w9 ⟨rfl, b9⟩
        rw [show lastK (V 0) = ⟨#[]⟩ from rfl]
        have HB9 : Hid (Below w.heap.size w w9) := bt HB.out (bt HB7.out (bt b8 b9))
        clear b8 b9 HB7 HTb7 HTb8 HB
        go_wp2_with fail
        go_ret
        exact ⟨rfl, HB9.out⟩
      · have q0 : ((k : Int) == 0) = false := by rw [beq_eq_false_iff_ne]; omega
        by_cases h2 : at' < 0
        · go_wp2_with fail
          go_ret
          exact ⟨rfl, bt HB.out HB7.out⟩
        by_cases h3 : (k : Int) ≤ at'
        · go_wp2_with fail
          go_ret
          exact ⟨rfl, bt HB.out HB7.out⟩
        obtain ⟨j, rfl⟩ := Int.eq_ofNat_of_zero_le (Int.not_lt.1 h2)
        have hj : j < k := by omega
        go_wp2_with fail
        refine (letters_any j _ (by omega)).mono ?_
        rintro e w8 ⟨rfl, b8⟩
        have HTb8 := HTb7.out.below b8
        go_wp2_with fail
        refine (WalkTab.get_any (V k) b (ltr j) _ HTb8).mono ?_
        rintro e w9 ⟨rfl, b9⟩
        rw [(TabLetters.V_get hN hj).1, (TabLetters.V_get hN hj).2, errv0]
        rw [show (one j).key = ltr j from rfl, show (one j).val = vee from rfl, show (one j).gone = false from rfl]
        have HB9 : Hid (Below wr.heap.size wr (w9.alloc (.cells #[.string (ltr j), .string vee, .bool false] 25))) := (bt HB7.out (bt b8 b9)).alloc (bt HB7.out (bt b8 b9)).size _
        have HTb9 : Hid (WalkTab.Tb (w9.alloc (.cells #[.string (ltr j), .string vee, .bool false] 25)) b (V k)) := (HTb8.below b9).below ((Below.refl _ _).alloc (Nat.le_refl _) _)
        have r0 : (w9.alloc (.cells #[.string (ltr j), .string vee, .bool false] 25)).cell? ⟨w9.heap.size, 0, none⟩ = some (.string (ltr j)) := by simp
        have r1 : (w9.alloc (.cells #[.string (ltr j), .string vee, .bool false] 25)).cell? ⟨w9.heap.size, 1, none⟩ = some (.string vee) := by simp
        have r2 : (w9.alloc (.cells #[.string (ltr j), .string vee, .bool false] 25)).cell? ⟨w9.heap.size, 2, none⟩ = some (.bool false) := by simp
        obtain ⟨b5, off5, rfl, _⟩ := HR5.out.2.2 hpos
        have hv : j < (V k).length := by rw [TabLetters.V_length]; exact hj
        obtain ⟨p0, p1, p2⟩ := PairRows.at_three (HR5.out.below HB9.out) j hv
        rw [TabLetters.V_at hv] at p0 p1 p2
        rw [show (one j).key = ltr j from rfl] at p0
        rw [show (one j).val = vee from rfl] at p1
        rw [show (one j).gone = false from rfl] at p2
        obtain ⟨K, hK⟩ : ∃ K : Nat, k = K + 1 := ⟨k - 1, by omega⟩
        have hKi : (k : Int) - 1 = (K : Int) := by omega
        have f1 : firstK (V k) = ltr 0 := by rw [hK]; exact TabLetters.V_first K
        have f2 : lastK (V k) = ltr K := by rw [hK]; exact TabLetters.V_end K
        have hK2 : K < 70 := by omega
        have hK3 : (0 : Int) ≤ (K : Int) := by omega
        have hK4 : (K : Int) ≤ 60 := by omega
        have hKw : IntKind.i64.wrap (K : Int) = (K : Int) := by rw [IntKind.wrap_i64]; omega
        have qq := pair_eql (ltr j) vee false
        clear b8 b9 HB7 HTb7 HTb8 HR5 hv hK
        go_upto_region 21 with fail
        generalize w9.alloc (.cells #[.string (ltr j), .string vee, .bool false] 25) = w10 at HB9 HTb9 r0 r1 r2 p0 p1 p2 ⊢
        have c1 : ∀ q os, Calls Tryd.prog 10 #[.pointer (some ⟨b, 0, none⟩)] (grow (redrawn w10 q) os) fun e w'' => e = .returned (.string (ltr 0)) ∧ ∃ p : Regrown, w'' = grow (redrawn w10 p.d) p.os := fun q os => by
          have h := WalkTab.first_any (V k) b _ (HTb9.out.below (below_regrown w10 q os))
          rw [f1] at h
          exact Calls.regrown_of h
        have c2 : ∀ q os, Calls Tryd.prog 11 #[.pointer (some ⟨b, 0, none⟩)] (grow (redrawn w10 q) os) fun e w'' => e = .returned (.string (ltr K)) ∧ ∃ p : Regrown, w'' = grow (redrawn w10 p.d) p.os := fun q os => by
          have h := WalkTab.last_any (V k) b _ (HTb9.out.below (below_regrown w10 q os))
          rw [f2] at h
          exact Calls.regrown_of h
        have c3 : ∀ q os, Calls Tryd.prog 4 #[.int .i64 (K : Int)] (grow (redrawn w10 q) os) fun e w'' => e = .returned (.string (ltr K)) ∧ ∃ p : Regrown, w'' = grow (redrawn w10 p.d) p.os := fun q os => Calls.regrown_of (letters_any K _ hK2)
        have e1 : ((ltr 0).toList == [97, 97]) = true := by rw [Letters.ltr_list]; rfl
        have e2 := beq_yes (ltr K)
        have t0 := fun dd os => cell_regrown r0 dd os
        have t1 := fun dd os => cell_regrown r1 dd os
        have t2 := fun dd os => cell_regrown r2 dd os
        have s0 := fun dd os => cell_regrown p0 dd os
        have s1 := fun dd os => cell_regrown p1 dd os
        have s2 := fun dd os => cell_regrown p2 dd os
        generalize ltr j = Q at *
        generalize ltr K = QK at *
        generalize ltr 0 = Q0 at *
        have HE : Hid (Below wr.heap.size wr w10) := HB9.out
        clear f1 f2 HTb9 HB9 r0 r1 r2 p0 p1 p2 hi hz0 hz1 hz2 q0 hlt hk j1 hN hpos hj hK2
        refine wp_region_quiet_below (by kernel_rfl) (by kernel_rfl) ?_
        iterate 15 (quiet_step (fail))
        quiet_step (exact c1 _ _)
        iterate 4 (quiet_step (fail))
        quiet_step (exact c2 _ _)
        iterate 2 (quiet_step (fail))
        quiet_step (exact c3 _ _)
        iterate 3 (quiet_step (fail))
        refine wpQuiet_nil ?_
        intro _ hw'
        obtain ⟨⟨dq, osq⟩, hw''⟩ := hw'
        subst hw''
        have HBe : Hid (Below w.heap.size w (grow (redrawn w10 dq) osq)) := bt HB.out (bt HE.out (below_regrown w10 dq osq))
        clear c1 c2 c3 t0 t1 t2 s0 s1 s2 HE qq
        generalize grow (redrawn w10 dq) osq = w11 at HBe ⊢
        go_wp2_with fail
        go_ret
        exact ⟨rfl, HBe.out⟩

end Go.Proofs.YtinjkmimaokffafDoor.WalkTableEmpty
