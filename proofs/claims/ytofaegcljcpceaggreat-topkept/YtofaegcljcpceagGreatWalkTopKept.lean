/-
  The walk of TopKept: entries that are put into what is kept, each by its place, come back behind a crash, as far as they were made safe; and the log they make has but grown to what it was.
-/
import Derived.Test.YtofaegcljcpceagGreatWalkWalAt
import Derived.Test.YtofaegcljcpceagGreatWalPlain
import Derived.Test.YtofaegcljcpceagGreatGrowRight
import Derived.Test.YtofaegcljcpceagGreatWalkTopOne
import Derived.Test.YtofaegcljcpceagGreatWalkEnt
import Derived.Test.YtofaegcljcpceagGreatWalkGrow
import Derived.BigQuiet
import Derived.Deep.QuietTactic
import Derived.Deep.DeepMust
import Derived.Deep.CutBlock
namespace Go.Proofs.YtofaegcljcpceagGreat.WalkTopKept
open Go.RowKit
open Lists (Row ints bt)
open Keeps (Kept owns_row owns_kept)
open Errs (errv errv0 errv_pos)
open Wides (Wide owns_wide)
open Entries (Entry entE entsE leafsV)
open EntRows (cells at_two)
open Nums (str)
open Wals
open WalKept (St Fits pr P Z)
open WalkWalAt (At)
open WalkWa (Wa)
open Letters (ltr)
open Lsms (newE)

theorem infoE : (Tryz.prog.info? 35).map (fun i => (i.zero, i.size, i.bytes)) = some (some (.agg #[.int .i64 0, .string ⟨#[]⟩]), 2, 24) := by kernel_rfl
theorem below_drewN {B : Nat} {a w : World} (h : Below B a w) (n : Nat) : Below B a (w.drewN n) := ⟨h.os, h.tape, h.output, h.size, h.block⟩
theorem owns_drew {w : World} {base n s : Nat} {t : TypeId} {v : Value} {xs : List Value} (h : w.ownsRow base t s v n xs) (q : Nat) : (w.drewN q).ownsRow base t s v n xs := owns_kept h (Kept.of_below (fun _ => False) (below_drewN (Below.refl _ _) q)) fun _ _ f => f
theorem cell_two_new (w : World) (x y : Value) (t : TypeId) : ∀ j u, [x, y][j]? = some u → (w.alloc (.cells #[x, y] t)).cell? ((⟨w.heap.size, 0, none⟩ : Addr).add j) = some u := by
  intro j u hj
  match j, hj with
  | 0, hj => simp at hj; subst hj; simp [Addr.add]
  | 1, hj => simp at hj; subst hj; simp [Addr.add]
/-- the key of a place -/
theorem key_str (k : Nat) (hk : k < 60) (w : World) : (convert 36 9 (.slice (some ⟨w.heap.size, 0, none⟩) 2 2)).run Tryz.prog (w.alloc (.cells #[.int .u8 (97 + (k : Int) / 26), .int .u8 (97 + (k : Int) % 26)] 5)) = .ok (.string (ltr k)) (w.alloc (.cells #[.int .u8 (97 + (k : Int) / 26), .int .u8 (97 + (k : Int) % 26)] 5)) := by
  have e1 : (((UInt8.ofNat (97 + k / 26 % 26)).toNat : Nat) : Int) = 97 + (k : Int) / 26 := by rw [UInt8.toNat_ofNat']; omega
  have e2 : (((UInt8.ofNat (97 + k % 26)).toNat : Nat) : Int) = 97 + (k : Int) % 26 := by rw [UInt8.toNat_ofNat']; omega
  have h := run_convert_bytes_back (P := Tryz.prog) (w.alloc (.cells #[.int .u8 (97 + (k : Int) / 26), .int .u8 (97 + (k : Int) % 26)] 5)) 36 9 5 ⟨w.heap.size, 0, none⟩ 2 [UInt8.ofNat (97 + k / 26 % 26), UInt8.ofNat (97 + k % 26)] Tryz.underlying36 Tryz.underlying5 Tryz.underlying9 (fun j hj => by
    match j, hj with
    | 0, _ => show _ = some (Value.int .u8 (((UInt8.ofNat (97 + k / 26 % 26)).toNat : Nat) : Int)); rw [e1]; simp [Addr.add]
    | 1, _ => show _ = some (Value.int .u8 (((UInt8.ofNat (97 + k % 26)).toNat : Nat) : Int)); rw [e2]; simp [Addr.add])
  exact h

set_option maxHeartbeats 16000000 in
set_option maxRecDepth 100000 in
theorem walk (a : Option Addr) (n cap : Nat) (l : List Entry) (hz : l.length * 24 ≤ 140737488351232) (hw : ∀ e ∈ l, (Lit.int .i64 e.1).wf = true ∧ e.2.size ≤ maxLen) (sync : Int) (_ : (Lit.int .i64 sync).wf = true) (keep : Int) (_ : (Lit.int .i64 keep).wf = true) (w : World) (r : Wide 2 w a n cap (cells l)) :
    Calls Tryz.prog 3 #[.slice a n cap, .int .i64 sync, .int .i64 keep] w fun e w' => e = .returned (.bool true) ∧ Below w.heap.size w w' := by
  have hln := EntRows.len_of r
  have HR : Hid (Wide 2 w a n cap (cells l)) := r
  have HW : Hid (∀ e ∈ l, e.2.size ≤ maxLen) := fun e he => (hw e he).2
  clear r hw
  go_enter Tryz.func3, Tryz.ntmps3
  go_wp2_with fail
  refine (WalkTopOne.one_any _).mono ?_
  rintro e w1 ⟨rfl, b1⟩
  go_wp2_with fail
  refine (WalkEnt.leafs_any l a n cap _ (HR.out.below b1) HW.out).mono ?_
  rintro e w2 ⟨v2, rfl, o2, b2⟩
  obtain ⟨a2, c2, rfl, r2, z2⟩ := owns_row o2
  have HB2 : Hid (Below w.heap.size w w2) := bt b1 b2
  have HL2 : Hid (Row w2 a2 (leafsV l).length c2 (ints (leafsV l))) := r2
  clear b1 b2 o2 r2 z2
  by_cases hE : entsE l = 0
  rotate_left
  · rw [errv_pos _ hE]
    clear hE
    go_wp2_with fail
    go_ret
    exact ⟨rfl, HB2.out⟩
  have HE : Hid (entsE l = 0) := hE
  rw [hE, errv0]
  clear hE
  by_cases h60 : 60 < n
  · have i1 : (60 : Int) < (n : Int) := by omega
    clear h60
    go_wp2_with fail
    go_ret
    exact ⟨rfl, HB2.out⟩
  have i1 : ¬ (60 : Int) < (n : Int) := by omega
  have hE9 : newE 9 = 0 := by decide
  have cN := WalkWalAt.new_any 9 w2 w2.heap.size (Nat.le_refl _)
  rw [hE9, errv0] at cN
  go_wp2_with fail
  refine cN.mono ?_
  rintro e w3 ⟨v3, rfl, hv, b3⟩
  obtain ⟨b, F, rfl, hwa, _⟩ := by first | exact hv rfl | exact hv trivial
  have HA : Hid (At w2 b (newW 9) w3) := ⟨⟨F, hwa⟩, b3⟩
  clear hv hwa cN b3
  go_wp2_with fail
  go_loopw [12] (fun i wr => ∃ k : Nat, k ≤ n ∧ i = .int .i64 (k : Int) ∧ Hid (∃ x, St l sync x k ∧ At w2 b x wr) ∧ Hid (Fits l k)) (fun i _ => n - (intOf i).toNat)
  case atStart => exact ⟨0, Nat.zero_le _, rfl, ⟨_, WalKept.st_new l sync, HA.out⟩, WalKept.fits_zero l⟩
  case round =>
    obtain ⟨k, hk, rfl, HX, HF⟩ := hrel
    clear HA
    by_cases hlt : k < n
    · have j1 : (k : Int) < (n : Int) := by omega
      have hkl : k < l.length := by omega
      obtain ⟨x, hS, hat⟩ := HX.out
      have HS : Hid (St l sync x k) := hS
      have HAt : Hid (At w2 b x wr) := hat
      obtain ⟨bl, ofl, rfl, _⟩ := HR.out.2.2 (by omega)
      obtain ⟨p0, p1⟩ := at_two (HR.out.below (bt HB2.out hat.2)) k hkl
      have he0 : entE l[k] = 0 := (Entries.ents_ok HE.out).2 _ (List.getElem_mem hkl)
      have hsz : (l[k]).2.size ≤ maxLen := HW.out _ (List.getElem_mem hkl)
      have HP : Hid (pr l k = ⟨ltr k, str (Entries.bytes l[k]), false⟩) := by
        show pr l k = _
        unfold pr
        rw [List.getD_eq_getElem?_getD, List.getElem?_eq_getElem hkl]
        rfl
      have HN : Hid ((Entries.bytes l[k]).length ≤ 200 → Fits l (k + 1)) := WalKept.fits_next HF.out hkl
      clear hS hat HX
      generalize l[k] = y at p0 p1 he0 hsz HP HN
      obtain ⟨y0, y1⟩ := y
      simp only at p0 p1 hsz
      have cE := fun w4 => WalkEnt.encode_any y0 y1 w4 hsz
      rw [he0, errv0, show Entries.encV (y0, y1) = Entries.bytes (y0, y1) from if_pos he0] at cE
      have HQ : Hid ((str (Entries.bytes (y0, y1))).size = (Entries.bytes (y0, y1)).length) := Nums.str_size _
      generalize Entries.bytes (y0, y1) = Y at cE HP HN HQ
      generalize str Y = D at cE HP HQ
      clear he0 hsz
      go_wp2_with fail
      refine (cE _).mono ?_
      rintro e w4 ⟨rfl, b4⟩
      replace HAt : Hid (At w2 b x w4) := HAt.out.below b4
      clear cE b4 p0 p1
      by_cases h200 : 200 < D.size
      · have i2 : (200 : Int) < (D.size : Int) := by omega
        clear h200
        go_wp2_with fail
        go_ret
        exact ⟨rfl, bt HB2.out HAt.out.2⟩
      have i2 : ¬ (200 : Int) < (D.size : Int) := by omega
      have HF2 : Hid (Fits l (k + 1)) := HN.out (by rw [← HQ.out]; omega)
      clear h200 HN HF
      have kc := key_str k (by omega) w4
      have bk : Below w4.heap.size w4 (w4.alloc (.cells #[.int .u8 (97 + (k : Int) / 26), .int .u8 (97 + (k : Int) % 26)] 5)) := (Below.refl _ _).alloc (Nat.le_refl _) _
      replace HAt : Hid (At w2 b x (w4.alloc (.cells #[.int .u8 (97 + (k : Int) / 26), .int .u8 (97 + (k : Int) % 26)] 5))) := HAt.out.below bk
      go_upto_region 19 with fail
      clear kc bk
      generalize w4.alloc (.cells #[.int .u8 (97 + (k : Int) / 26), .int .u8 (97 + (k : Int) % 26)] 5) = w5 at HAt ⊢
      have hlen := HS.out.length
      have cP : Calls Tryz.prog 8 #[.pointer (some ⟨b, 0, none⟩), .slice (some ⟨w5.heap.size, 0, none⟩) 1 1] (w5.alloc (.cells #[.string (ltr k), .string D, .bool false] 39)) fun e w' => e = .returned (errv (putWE x [pr l k])) ∧ ∃ n t, 2 ≤ n ∧ At w2 b (putW x [pr l k] n t) w' := by
        rw [HP.out]
        exact WalkWalAt.put_one HAt.out (by omega) ⟨ltr k, D, false⟩ (by rw [Letters.ltr_size]; decide) (by show D.size ≤ maxLen; unfold maxLen; omega)
      by_cases hsy : (k : Int) = sync
      · have hd : ((k : Int) == sync) = true := by rw [beq_iff_eq]; exact hsy
        rw [(WalKept.st_sync HF2.out HS.out hkl (n := 2) (t := 0) (Nat.le_refl _)).1, errv0] at cP
        go_wp2_with fail
        refine cP.mono ?_
        rintro e w6 ⟨rfl, n6, t6, hn6, at6⟩
        obtain ⟨_, q2, q3⟩ := WalKept.st_sync HF2.out HS.out hkl (n := n6) (t := t6) hn6
        have cS := WalkWalAt.sync_at at6
        rw [q2, errv0] at cS
        have HQ3 : Hid (St l sync (syncW (putW x [pr l k] n6 t6)) (k + 1)) := q3
        clear cP at6 q2 q3 HAt HS
        generalize syncW (putW x [pr l k] n6 t6) = z at cS HQ3
        go_wp2_with fail
        refine cS.mono ?_
        rintro e w7 ⟨rfl, at7⟩
        have HZ : Hid (∃ x, St l sync x (k + 1) ∧ At w2 b x w7) := ⟨z, HQ3.out, at7⟩
        clear cS at7 HQ3
        go_wp2_with fail
        go_roundw
        case rel => exact ⟨k + 1, by omega, by first | go_num | (rw [← hsy]; go_num), HZ, HF2⟩
        case measure => simp [intOf]; omega
      · have hd : ((k : Int) == sync) = false := by rw [beq_eq_false_iff_ne]; exact hsy
        rw [(WalKept.st_put HF2.out HS.out hkl (n := 2) (t := 0) (Nat.le_refl _) hsy).1, errv0] at cP
        go_wp2_with fail
        refine cP.mono ?_
        rintro e w6 ⟨rfl, n6, t6, hn6, at6⟩
        obtain ⟨_, q3⟩ := WalKept.st_put HF2.out HS.out hkl (n := n6) (t := t6) hn6 hsy
        have HZ : Hid (∃ x, St l sync x (k + 1) ∧ At w2 b x w6) := ⟨_, q3, at6⟩
        clear cP at6 q3 HAt HS hsy
        go_wp2_with fail
        go_roundw
        case rel => exact ⟨k + 1, by omega, by go_num, HZ, HF2⟩
        case measure => simp [intOf]; omega
    · have j1 : ¬ (k : Int) < (n : Int) := by omega
      obtain rfl : k = n := by omega
      clear hlt hk
      obtain ⟨x, hS, hat⟩ := HX.out
      obtain ⟨m, hm, hcur, hsm⟩ := WalKept.st_crash hS keep
      have hlen := hS.length
      clear HX
      go_wp2_with fail
      refine (WalkWalAt.crash_at hat (by omega) keep).mono ?_
      rintro e w4 ⟨rfl, at4⟩
      clear hat hS
      go_wp2_with fail
      refine (WalkWalAt.lsm_at at4).mono ?_
      rintro e w5 ⟨b5, F5, rfl, hls, at5⟩
      rw [hcur] at hls
      have cA := WalkLs.all_any hls (by have := WalKept.size_is l m; omega)
      rw [WalKept.all_is (fun i hi hik => HF.out i hi (by omega)) (by omega) (by omega), WalKept.P_length] at cA
      clear at4 hls hcur
      go_wp2_with fail
      refine cA.mono ?_
      rintro e w6 ⟨v6, rfl, o6, b6⟩
      obtain ⟨a6, c6, rfl, r6⟩ := owns_wide o6
      have HB6 : Hid (Below w.heap.size w w6) := bt (bt HB2.out at5.2) b6
      have HL6 : Hid (Row w6 a2 (leafsV l).length c2 (ints (leafsV l))) := HL2.out.below (bt at5.2 b6)
      have HP6 : Hid (Wide 3 w6 a6 m c6 (PairRows.cells (P l m))) := r6
      clear cA o6 b6 at5 r6 HL2 HB2
      have g1 : ¬ (k : Int) < (m : Int) := by omega
      go_upto_region 25 with fail
      go_cut [121] from 100 to 120 (fun v wc => v = .bool false ∧ w6 = wc)
      case first => as_aux_lemma =>
        by_cases q1 : 0 ≤ sync
        rotate_left
        · clear hsm
          go_wp2_with fail
          go_meet
          case rel => exact ⟨congrArg Value.bool (decide_eq_false (by omega)), rfl⟩
        by_cases q2 : sync < (k : Int)
        rotate_left
        · clear hsm
          go_wp2_with fail
          go_meet
          case rel => exact ⟨congrArg Value.bool (decide_eq_false (by omega)), rfl⟩
        · have q3 : ¬ (m : Int) < sync + 1 := by have := hsm q1 q2; omega
          clear hsm
          go_wp2_with fail
          go_meet
          case rel => exact ⟨congrArg Value.bool (decide_eq_false (by omega)), rfl⟩
      obtain ⟨rfl, rfl⟩ := hcut
      clear hsm g1
      obtain ⟨i0, hi, hz0, hz1, hz2⟩ := info_parts infoE
      have a35 := WalkEntOne.aggE
      have z35 := WalkEntOne.sizeE
      go_wp2_with fail
      go_loopw [17, 18] (fun v i wr => ∃ j : Nat, j ≤ m ∧ i = .int .i64 (j : Int) ∧ Hid (wr.ownsRow w6.heap.size 35 2 v (l.take j).length (cells (l.take j))) ∧ Hid (Below w6.heap.size w6 wr)) (fun _ i _ => m - (intOf i).toNat)
      case atStart => exact ⟨0, Nat.zero_le _, rfl, World.ownsRow_nil _ _ _ _, Below.refl _ _⟩
      case round =>
        obtain ⟨j, hj, rfl, HO, HBn⟩ := hrel
        by_cases hjm : j < m
        · have j2 : (j : Int) < (m : Int) := by omega
          have hjl : j < l.length := by omega
          obtain ⟨b6, of6, rfl, _⟩ := HP6.out.2.2 (by omega)
          obtain ⟨_, s1, _⟩ := PairRows.at_three (HP6.out.below HBn.out) j (by rw [WalKept.P_length]; exact hjm)
          rw [WalKept.P_at l hjm] at s1
          have HN : Hid (l.take (j + 1) = l.take j ++ [l[j]]) := by show _ = _; rw [List.take_succ_eq_append_getElem hjl]
          have hpr : (pr l j).val = str (Entries.bytes l[j]) := by
            unfold pr
            rw [List.getD_eq_getElem?_getD, List.getElem?_eq_getElem hjl]
            rfl
          rw [hpr] at s1
          have he0 : entE l[j] = 0 := (Entries.ents_ok HE.out).2 _ (List.getElem_mem hjl)
          have hfit := HF.out j hjl (by omega)
          obtain ⟨bl, ofl, rfl, _⟩ := HR.out.2.2 (by omega)
          obtain ⟨p0, p1⟩ := at_two (HR.out.below (bt HB6.out HBn.out)) j hjl
          have HPE : Hid (∀ w7, Below w.heap.size w w7 → w7.cell? ⟨bl, ofl + j * 2, none⟩ = some (.int .i64 (l[j]).1) ∧ w7.cell? ⟨bl, ofl + j * 2 + 1, none⟩ = some (.string (l[j]).2)) := fun w7 hb => at_two (HR.out.below hb) j hjl
          clear p0 p1 hpr
          have htl : (l.take j).length = j := by rw [List.length_take]; omega
          generalize l[j] = y at s1 he0 hfit HN HPE
          obtain ⟨y0, y1⟩ := y
          simp only at HPE
          have cD := fun w7 => WalkEnt.decode_any (str (Entries.bytes (y0, y1))) w7 (by rw [Nums.str_size]; omega)
          rw [Nums.str_data, (Entries.dec_is (Entries.dec_bytes he0)).1, (Entries.dec_is (Entries.dec_bytes he0)).2, errv0] at cD
          simp only at cD
          generalize str (Entries.bytes (y0, y1)) = D at s1 cD
          clear he0 hfit
          go_wp2_with fail
          refine (cD _).mono ?_
          rintro e w7 ⟨rfl, b7⟩
          have HB7 : Hid (Below w6.heap.size w6 (w7.alloc (.cells #[.int .i64 y0, .string y1] 35))) := (bt HBn.out b7).alloc (bt HBn.out b7).size _
          have HO7 : Hid ((w7.alloc (.cells #[.int .i64 y0, .string y1] 35)).ownsRow w6.heap.size 35 2 u17 (l.take j).length (cells (l.take j))) := (owns_kept HO.out (Kept.of_below (fun _ => False) b7) fun _ _ q => q).alloc _
          clear cD b7 s1 HO HBn
          obtain ⟨p0, p1⟩ := HPE.out _ (bt HB6.out HB7.out)
          have x0 : (w7.alloc (.cells #[.int .i64 y0, .string y1] 35)).cell? ⟨w7.heap.size, 0, none⟩ = some (.int .i64 y0) := by simp
          have x1 : (w7.alloc (.cells #[.int .i64 y0, .string y1] 35)).cell? ⟨w7.heap.size, 1, none⟩ = some (.string y1) := by simp
          go_upto_region 32 with fail
          generalize hg7 : w7.heap.size = g7 at x0 x1 ⊢
          generalize w7.alloc (.cells #[.int .i64 y0, .string y1] 35) = w8 at HB7 HO7 p0 p1 x0 x1 ⊢
          have j3 : (j : Int) < (k : Int) := by omega
          have e1 : (y1.toList == y1.toList) = true := beq_self_eq_true _
          go_quiet (fail)
          have HB8 : Hid (Below w6.heap.size w6 (w8.drewN nq)) := below_drewN HB7.out nq
          have HO8 : Hid ((w8.drewN nq).ownsRow w6.heap.size 35 2 u17 (l.take j).length (cells (l.take j))) := owns_drew HO7.out nq
          have y2 : (w8.drewN nq).cell? ⟨g7, 0, none⟩ = some (.int .i64 y0) := x0
          have y3 : (w8.drewN nq).cell? ⟨g7, 1, none⟩ = some (.string y1) := x1
          clear HB7 HO7 p0 p1 x0 x1 hg7
          generalize w8.drewN nq = w9 at HB8 HO8 y2 y3 ⊢
          go_wp2_with (at_builtin; go_must (refine wpList_append_own _ rfl (.tmp 147) (.tmp 149) 22 rfl w6.heap.size 35 i0 (.agg #[.int .i64 0, .string ⟨#[]⟩]) 2 24 Tryz.underlying22 hi hz0 hz1 hz2 rfl (by decide) _ _ _ rfl (HO8.out.alloc _) ⟨_, 0, none⟩ 1 1 [.int .i64 y0, .string y1] rfl rfl (cell_two_new _ _ _ _) (fun u hu => by simp at hu; rcases hu with rfl | rfl <;> rfl) (by unfold maxLen; omega) (by omega) (by have := HB8.out.size; simp; omega) ?_); intro v1 wn o1 q1 z1; clear z1)
          have HBN : Hid (Below w6.heap.size w6 wn) := (HB8.out.alloc HB8.out.size _).grown q1 (by have := HB8.out.size; simp; omega) (fun k hk => (HO8.out.lt k hk).1)
          have HON : Hid (wn.ownsRow w6.heap.size 35 2 v1 (l.take (j + 1)).length (cells (l.take (j + 1)))) := by
            rw [HN.out, EntRows.cells_append, List.length_append]
            exact o1
          clear q1 o1 HO8 HB8
          go_roundw
          case rel => exact ⟨j + 1, by omega, by go_num, HON, HBN⟩
          case measure => simp [intOf]; omega
        · have j2 : ¬ (j : Int) < (m : Int) := by omega
          obtain rfl : j = m := by omega
          clear hjm hj
          obtain ⟨a7, c7, rfl, r7⟩ := owns_wide HO.out
          have htl : (l.take j).length = j := by rw [List.length_take]; omega
          rw [htl] at r7 ⊢
          by_cases h0 : j = 0
          · have hd : ((j : Int) == 0) = true := by rw [h0]; rfl
            have HBE : Hid (Below w.heap.size w wr) := bt HB6.out HBn.out
            clear h0 HO HBn HB6
            go_wp2_with fail
            go_ret
            exact ⟨rfl, HBE.out⟩
          have hd : ((j : Int) == 0) = false := by rw [beq_eq_false_iff_ne]; omega
          obtain ⟨eN, lN⟩ := GrowRight.leafs_is HE.out
          obtain ⟨eT, lT⟩ := GrowRight.leafs_take HE.out j
          have hvN : ∀ x ∈ leafsV l, Nums.valid x = true := by rw [eN]; exact GrowRight.leafs_valid l
          rw [hln] at lN
          obtain ⟨q1, q2, q3⟩ := GrowRight.right lN (by omega) hvN (show 1 ≤ j by omega) hm
          have z1 : Trees.leafsE (leafsV l) = 0 := GrowsE.leafs_zero (by omega) hvN
          have z2 : Trees.leafsE ((leafsV l).take j) = 0 := GrowsE.leafs_zero (by rw [List.length_take]; omega) fun x hx => hvN x (List.mem_of_mem_take hx)
          have lTk : ((leafsV l).take j).length = j := by rw [List.length_take]; omega
          have cL := WalkEnt.leafs_any (l.take j) a7 j c7 wr r7 (fun e he => HW.out e (List.mem_of_mem_take he))
          rw [eT, lT, lTk, errv0] at cL
          have HLr : Hid (Row wr a2 k c2 (ints (leafsV l))) := by
            have h := HL6.out.below HBn.out
            rw [lN] at h
            exact h
          have HBr : Hid (Below w.heap.size w wr) := bt HB6.out HBn.out
          rw [lN]
          generalize leafsV l = L at cL HLr q1 q2 q3 z1 z2 lTk lN
          clear eN eT lT hvN HO HBn HB6 HL6 HP6 r7 htl h0
          go_wp2_with fail
          refine cL.mono ?_
          rintro e w8 ⟨v8, rfl, o8, b8⟩
          obtain ⟨a8, c8, rfl, r8, z8⟩ := owns_row o8
          have cA := WalkCheck.root_any (L.take j) a8 j c8 w8 r8
          rw [z2, WalkCheck.errv0] at cA
          have HR8 : Hid (Row w8 a2 k c2 (ints L)) := HLr.out.below b8
          have HB8 : Hid (Below w.heap.size w w8) := bt HBr.out b8
          clear cL o8 b8 z8 HLr HBr r8
          go_wp2_with fail
          refine cA.mono ?_
          rintro e w9 ⟨rfl, b9⟩
          have HR9 : Hid (Row w9 a2 k c2 (ints L)) := HR8.out.below b9
          have HB9 : Hid (Below w.heap.size w w9) := bt HB8.out b9
          have cB := WalkCheck.root_any L a2 k c2 w9 HR9.out
          rw [z1, WalkCheck.errv0] at cB
          clear cA b9 HR8 HB8
          go_wp2_with fail
          refine cB.mono ?_
          rintro e wa ⟨rfl, ba⟩
          have HRa : Hid (Row wa a2 k c2 (ints L)) := HR9.out.below ba
          have HBa : Hid (Below w.heap.size w wa) := bt HB9.out ba
          have cM := WalkGrow.make_any L a2 k c2 (j : Int) (k : Int) wa HRa.out
          rw [q1, WalkCheck.errv0] at cM
          clear cB ba HR9 HB9
          go_wp2_with fail
          refine cM.mono ?_
          rintro e wb ⟨vb, rfl, ob, bb⟩
          obtain ⟨ab, cb, rfl, rb, zb⟩ := owns_row ob
          have cC := WalkGrow.check_any (Trees.rootV (L.take j)) (j : Int) (Trees.rootV L) (k : Int) (GrowsE.gmakeL L (j : Int) (k : Int)) ab (GrowsE.gmakeL L (j : Int) (k : Int)).length cb wb rb (by omega)
          rw [q3, WalkCheck.errv0] at cC
          have HBb : Hid (Below w.heap.size w wb) := bt HBa.out bb
          generalize (GrowsE.gmakeL L (j : Int) (k : Int)).length = G at cC ⊢
          generalize Trees.rootV (L.take j) = R1 at cC ⊢
          generalize Trees.rootV L = R2 at cC ⊢
          clear cM ob bb zb rb HRa HBa q1 q2 q3 z1 z2
          go_wp2_with fail
          refine cC.mono ?_
          rintro e wc ⟨rfl, bc⟩
          have HBE : Hid (Below w.heap.size w wc) := bt HBb.out bc
          clear cC bc HBb
          go_wp2_with fail
          go_ret
          exact ⟨rfl, HBE.out⟩

end Go.Proofs.YtofaegcljcpceagGreat.WalkTopKept
