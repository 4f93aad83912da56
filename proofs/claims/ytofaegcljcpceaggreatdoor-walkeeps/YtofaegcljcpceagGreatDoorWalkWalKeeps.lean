/-
  The walk of WalKeeps.
-/
import Derived.Test.YtofaegcljcpceagGreatDoorWalkWalAt
import Derived.Test.YtofaegcljcpceagGreatDoorWalkWalHas
import Derived.Test.YtofaegcljcpceagGreatDoorWalFacts
import Derived.Test.YtofaegcljcpceagGreatDoorBatchRows
import Derived.Test.YtofaegcljcpceagGreatDoorWalkTold
import Derived.Deep.DeepMust
import Derived.Deep.CutBlock
import Derived.Maps.AppendAt
import Derived.Deep.RegionHeld
import Derived.Test.YtofaegcljcpceagGreatDoorLsmRef
import Derived.Test.YtofaegcljcpceagGreatDoorWalkTablesRef
import Derived.Test.YtofaegcljcpceagGreatDoorWalkPairsSame
import Derived.Test.YtofaegcljcpceagGreatDoorWalkTexts
namespace Go.Proofs.YtofaegcljcpceagGreatDoor.WalkWalKeeps
open Go.RowKit
open Lists (Row bt ints)
open Keeps (Kept owns_row)
open WalkTold (Laid)
open Errs (errv errv0 errv_pos)
open Wides (Wide owns_wide)
open PairRows (cells)
open Wals
open WalkWalAt (At)
open WalkWa (Wa)
open WalkWalOff (Off)
open WalkWalHas (Has ptrs)
open WalkMergeRef (DL)
open WalPlays (Play marks)
open WalFacts (pa pb Y1 Y2)
open Lsms (newE Lsm)

/-- an error held against none -/
theorem err_eql (E : Nat) (w : World) : (binOp .eql 26 (errv E) .nilIface).run Tryz.prog w = .ok (.bool (decide (E = 0))) w := by
  by_cases h : E = 0
  · subst h
    rw [errv0]
    kernel_rfl
  · rw [errv_pos _ h, decide_eq_false h]
    kernel_rfl
theorem err_guard (E : Nat) (x : Operand) (w : World) : (eqGuard .eql 26 x (.const .nilIface) (errv E) .nilIface).run Tryz.prog w = .ok () w := by
  by_cases h : E = 0
  · subst h
    rw [errv0]
    cases x <;> rfl
  · rw [errv_pos _ h]
    rfl
/-- the cells of a row that the call owns, at the block that is known -/
theorem owns_at {w : World} {base g : Nat} {e : TypeId} {n m cap : Nat} {xs : List Value} (h : w.ownsRow base e 1 (.slice (some ⟨g, 0, none⟩) m cap) n xs) : ∀ j u, xs[j]? = some u → w.cell? ⟨g, j, none⟩ = some u := by
  intro j u hj
  have hl := h.1
  have hj' := (List.getElem?_eq_some_iff.1 hj).1
  obtain ⟨g', cap', hv, _, _, _, _, _, hc, _⟩ := Keeps.owns_open h (by omega)
  simp only [Value.slice.injEq, Option.some.injEq, Addr.mk.injEq] at hv
  rw [hv.1.1]
  exact hc j u hj
theorem fine_bounds {m N : Nat} {x : Lsm} (h : LsmFines.Fine m x N) (hN : N ≤ 900) : x.size ≤ 10000 ∧ Lsms.total x.lists ≤ 1000 ∧ x.levels.length ≤ 900 ∧ (∀ l ∈ x.levels, Tabs.pairsE l = 0 ∧ l.length ≤ 1000) ∧ x.all.length ≤ 1000 := by
  have h1 := h.size
  have h2 : Lsms.total x.lists = x.size := rfl
  have h3 := h.good.few
  have h4 := Lsms.live_le x.lists
  have h5 : x.all = Lsms.live x.lists := rfl
  exact ⟨by omega, by omega, by omega, fun l hl => ⟨(h.tabs l hl).1, by have := (h.tabs l hl).2; omega⟩, by rw [h5]; omega⟩
theorem infoPt : (Tryz.prog.info? 39).map (fun i => (i.zero, i.size, i.bytes)) = some (some (.pointer none), 1, 8) := by kernel_rfl
theorem infoI : (Tryz.prog.info? 3).map (fun i => (i.zero, i.size, i.bytes)) = some (some (.int .i64 0), 1, 8) := by kernel_rfl
theorem one_at (w : World) (v : Value) (t : TypeId) : ∀ j u, [v][j]? = some u → (w.alloc (.cells #[v] t)).cell? ((⟨w.heap.size, 0, none⟩ : Addr).add j) = some u := by
  intro j u hj
  match j, hj with
  | 0, hj => simp at hj; subst hj; simp [Addr.add]
  | j + 1, hj => simp at hj
theorem marks_not {x : Wal} {l : List Stores.Pair} (h : putWE x l ≠ 0) (n t : Nat) : marks (putW x l n t) = marks x := by unfold marks; rw [(WalHolds.put_not h n t).1]
theorem wf_i64 {z : Int} (h : (Lit.int .i64 z).wf = true) : -9223372036854775808 ≤ z ∧ z ≤ 9223372036854775807 := by
  have h1 : IntKind.i64.min = -9223372036854775808 := by decide
  have h2 : IntKind.i64.max = 9223372036854775807 := by decide
  simp only [Lit.wf, h1, h2] at h
  simpa using h
theorem marks_sync (x : Wal) : marks (syncW x) = marks x := by unfold marks; rw [WalHolds.sync_hist]

set_option maxHeartbeats 16000000 in
set_option maxRecDepth 100000 in
theorem walk (limit : Int) (_ : (Lit.int .i64 limit).wf = true) (a : Option Addr) (n cap : Nat) (bs : List (List Stores.Pair)) (_ : bs.length * 24 ≤ 140737488351232) (hw : ∀ l ∈ bs, ∀ e ∈ l, e.key.size ≤ maxLen ∧ e.val.size ≤ maxLen)
    (a1 : Option Addr) (n1 cap1 : Nat) (l1 : List Int) (_ : l1.length * 8 ≤ 140737488351232) (_ : ∀ x ∈ l1, (Lit.int .i64 x).wf = true) (a2 : Option Addr) (n2 cap2 : Nat) (l2 : List Int) (_ : l2.length * 8 ≤ 140737488351232) (hw2 : ∀ x ∈ l2, (Lit.int .i64 x).wf = true) (a3 : Option Addr) (n3 cap3 : Nat) (l3 : List Int) (_ : l3.length * 8 ≤ 140737488351232) (hw3 : ∀ x ∈ l3, (Lit.int .i64 x).wf = true) (w : World)
    (r : BatchRows.Batches w a n cap bs) (r1 : Row w a1 n1 cap1 (ints l1)) (r2 : Row w a2 n2 cap2 (ints l2)) (r3 : Row w a3 n3 cap3 (ints l3)) (hL : WalkTold.Laid w) :
    Calls Tryz.prog 3 #[.int .i64 limit, .slice a n cap, .slice a1 n1 cap1, .slice a2 n2 cap2, .slice a3 n3 cap3] w fun e w' => e = .returned (.bool true) ∧ Below w.heap.size w w' := by
  have HErr : Hid (∀ (e : Nat) (m : Int) (w1 : World), Below w.heap.size w w1 → Calls Tryz.prog 14 #[errv e, .int .i64 m] w1 fun r w' => r = .returned (.bool ((e : Int) == m)) ∧ Below w1.heap.size w1 w') := fun e m w1 h =>
    WalkTold.error_is e m w1 (hL.below h)
  have HP : Hid (Row w a1 n1 cap1 (ints l1) ∧ Row w a2 n2 cap2 (ints l2) ∧ Row w a3 n3 cap3 (ints l3) ∧ BatchRows.Batches w a n cap bs) := ⟨r1, r2, r3, r⟩
  have HW2 : Hid (∀ k, k < n2 → l2.getD k 0 ≤ 9223372036854775807) := fun k hk => by
    have hj : k < l2.length := by have := r2.1; simp [ints] at this; omega
    have hb := wf_i64 (hw2 (l2.getD k 0) (by rw [List.getD_eq_getElem?_getD, List.getElem?_eq_getElem hj]; exact List.getElem_mem hj))
    omega
  clear hL r1 r2 r3 r hw2
  have hE9 : newE 5 = 0 := by decide
  have cN := WalkWalAt.new_any 5 w w.heap.size (Nat.le_refl _)
  rw [hE9, errv0] at cN
  go_enter Tryz.func3, Tryz.ntmps3
  go_wp2_with fail
  refine cN.mono ?_
  rintro e w1 ⟨v, rfl, hv, b1⟩
  obtain ⟨b, F, rfl, hwa, _⟩ := by first | exact hv rfl | exact hv trivial
  have HA : At w b (newW 5) w1 := ⟨⟨F, hwa⟩, b1⟩
  have c1 := WalkWalAt.put_one HA (by decide) pa (by decide) (by decide)
  rw [WalFacts.one_err, errv0] at c1
  clear hv hwa cN b1 HA
  go_wp2_with fail
  refine c1.mono ?_
  rintro e w2 ⟨rfl, m1, t1, hm1, at2⟩
  rw [WalFacts.one_put] at at2
  have c2 := WalkWalAt.sync_at at2
  rw [(WalFacts.one_sync m1).1, (WalFacts.one_sync m1).2, errv0] at c2
  clear c1 at2
  go_wp2_with fail
  refine c2.mono ?_
  rintro e w3 ⟨rfl, at3⟩
  have c3 := WalkWalAt.put_one at3 (by show 2 ≤ 400; decide) pb (by decide) (by decide)
  rw [WalFacts.two_err, errv0] at c3
  clear c2 at3
  go_wp2_with fail
  refine c3.mono ?_
  rintro e w4 ⟨rfl, m2, t2, hm2, at4⟩
  rw [WalFacts.two_put] at at4
  have c4 := WalkWalAt.crash_at at4 (by show 3 ≤ 400; decide) 0
  rw [WalFacts.two_crash _ _ hm2] at c4
  clear c3 at4
  go_wp2_with fail
  refine c4.mono ?_
  rintro e w5 ⟨rfl, at5⟩
  have c5 := WalkWalAt.lsm_at at5
  clear c4 at5
  go_wp2_with fail
  refine c5.mono ?_
  rintro e w6 ⟨b2, F2, rfl, hls, at6⟩
  have c6 := WalkLs.all_any hls WalFacts.fact_all.2
  clear c5 hls
  go_wp2_with fail
  refine c6.mono ?_
  rintro e w7 ⟨v7, rfl, o7, b7⟩
  obtain ⟨a7, c7, rfl, _⟩ := owns_wide o7
  have at7 := at6.below b7
  rw [(WalFacts.fact_bytes m1).2, WalFacts.fact_all.1]
  have c8 := WalkWalAt.bytes_at at7
  rw [(WalFacts.fact_bytes m1).1] at c8
  clear c6 o7 b7 at6 at7
  go_wp2_with fail
  refine c8.mono ?_
  rintro e w8 ⟨rfl, at8⟩
  obtain ⟨⟨F8, wa8⟩, bb8⟩ := at8
  have c9 := WalkWa.safe_any wa8
  have e9 : ((m1 : Int) != ((⟨[(0, ⟨5, [], []⟩), (m1, Y1)], 0, m1, none, false⟩ : Wal).safe : Int)) = false := by simp
  clear c8
  go_wp2_with fail
  refine c9.mono ?_
  rintro e w9 ⟨rfl, b9⟩
  have bb9 : Below w.heap.size w w9 := bt bb8 b9
  have c10 := WalkWalAt.new_any limit w9 w.heap.size bb9.size
  clear c9 wa8 bb8 b9
  go_wp2_with fail
  refine c10.mono ?_
  rintro e w10 ⟨v10, rfl, hv, b10⟩
  have HB : Hid (Below w.heap.size w w10) := bt bb9 b10
  clear c10 bb9 b10
  as_aux_lemma =>
    by_cases hlim : limit < 1 ∨ 60 < limit
    · have hN1 : newE limit = 1 := if_pos hlim
      rw [hN1, errv_pos 1 (by decide)]
      clear hv hN1
      by_cases h1 : limit < 1
      · go_wp2_with fail
        go_ret
        exact ⟨rfl, HB.out⟩
      · have h2 : 60 < limit := hlim.resolve_left h1
        go_wp2_with fail
        go_ret
        exact ⟨rfl, HB.out⟩
    have hN0 : newE limit = 0 := if_neg hlim
    rw [hN0, errv0]
    obtain ⟨bw, Fw, rfl, hwa, _⟩ := hv hN0
    obtain ⟨L, rfl⟩ := Int.eq_ofNat_of_zero_le (show 0 ≤ limit by omega)
    have hL1 : 1 ≤ L := by omega
    have hL2 : L ≤ 60 := by omega
    have HW : Hid (Wa w10 w.heap.size bw Fw (newW L)) := hwa
    clear hv hwa hN0 hlim
    go_wp2_with fail
    go_loopw [19, 20, 21, 22] (fun dv mv cv rv wr => ∃ (rd c : Nat) (x : Wal) (rs qs : List (Nat × Lsm)) (U : Nat → Prop) (len gd cd gm cm : Nat), rd ≤ 4 ∧ rv = .int .i64 (rd : Int) ∧ cv = .int .i64 (c : Int) ∧ c ≤ 8 * rd ∧ c ≤ n ∧ Hid (len = rs.length) ∧ dv = .slice (some ⟨gd, 0, none⟩) len cd ∧ mv = .slice (some ⟨gm, 0, none⟩) len cm ∧ len ≤ cd ∧ len ≤ cm ∧ Hid (Has w wr bw x U qs (rs.map (·.1)) (marks x) (.slice (some ⟨gd, 0, none⟩) len cd) (.slice (some ⟨gm, 0, none⟩) len cm)) ∧ Hid (Play L x rs c) ∧ Hid (∀ r ∈ rs, r ∈ qs)) (fun _ _ _ rv _ => 4 - (intOf rv).toNat)
    case atStart => exact ⟨0, 0, newW L, [(w10.heap.size, ⟨L, [], []⟩)], _, _, 1, w10.heap.size + 1, 1, w10.heap.size + 2, 1, by decide, rfl, rfl, Nat.le_refl _, Nat.zero_le _, rfl, rfl, rfl, Nat.le_refl _, Nat.le_refl _, Has.start HW.out HB.out, WalPlays.play_new hL1 hL2 _, fun r h => h⟩
    case round =>
      obtain ⟨rd, c, x, rs, qs, U, len, gd, cd, gm, cm, hrd, rfl, rfl, hc, hcn, HLen, rfl, rfl, hcd, hcm, HH, HPl, HM⟩ := hrel
      by_cases hgo : ¬ (rd ≤ n2 ∧ rd < 4)
      · have HZ : Hid (Below w.heap.size w wr) := HH.out.off.below
        by_cases h1 : rd ≤ n2
        · have i1 : (rd : Int) ≤ (n2 : Int) := by omega
          have i2 : ¬ (rd : Int) < 4 := by omega
          clear hgo
          go_wp2_with fail
          go_ret
          exact ⟨rfl, HZ.out⟩
        · have i1 : ¬ (rd : Int) ≤ (n2 : Int) := by omega
          clear hgo
          go_wp2_with fail
          go_ret
          exact ⟨rfl, HZ.out⟩
      have hgo : rd ≤ n2 ∧ rd < 4 := Decidable.not_not.1 hgo
      obtain ⟨g1, g2⟩ := hgo
      have i1 : (rd : Int) ≤ (n2 : Int) := by omega
      have i2 : (rd : Int) < 4 := by omega
      go_upto_if 115 with fail
      go_cut [115] from 116 to 121 (fun _ wc => ∃ x2 : Wal, Hid (Has w wc bw x2 U qs (rs.map (·.1)) (marks x2) (.slice (some ⟨gd, 0, none⟩) len cd) (.slice (some ⟨gm, 0, none⟩) len cm)) ∧ Hid (Play L x2 rs c))
      case first => as_aux_lemma =>
        by_cases h3 : rd < n2
        · have i3 : (rd : Int) < (n2 : Int) := by omega
          have hr2 := HP.out.2.1
          obtain ⟨bf, off, rfl, _⟩ := hr2.2.2 (by omega)
          have cf : wr.cell? ⟨bf, off + rd, none⟩ = some (.int .i64 (l2.getD rd 0)) := (hr2.below HH.out.off.below).at rd _ (Lists.ints_at (by have := hr2.1; simp [ints] at this; omega))
          have cF := WalkWalOff.fail_off HH.out.off (l2.getD rd 0) (HW2.out rd h3)
          generalize l2.getD rd 0 = z at cf cF
          clear hr2
          go_wp2_with fail
          refine cF.mono ?_
          rintro e w12 ⟨rfl, of12, k12⟩
          have H12 : Hid (Has w w12 bw (failW x z) U qs (rs.map (·.1)) (marks (failW x z)) (.slice (some ⟨gd, 0, none⟩) len cd) (.slice (some ⟨gm, 0, none⟩) len cm)) := HH.out.log of12 k12
          clear cF of12 k12 cf
          go_wp2_with fail
          go_meet
          case rel => exact ⟨failW x z, H12, WalPlays.play_fail HPl.out z⟩
        · have i3 : ¬ (rd : Int) < (n2 : Int) := by omega
          go_wp2_with fail
          go_meet
          case rel => exact ⟨x, HH, HPl⟩
      obtain ⟨x2, HH2, HPl2⟩ := hcut
      clear HH HPl HW HB
      go_wp2_with fail
      go_loopw [19, 20, 21, 23] (fun dv mv cv kv wr => ∃ (k c : Nat) (x : Wal) (rs qs : List (Nat × Lsm)) (U : Nat → Prop) (len gd cd gm cm : Nat), k ≤ 8 ∧ kv = .int .i64 (k : Int) ∧ cv = .int .i64 (c : Int) ∧ c ≤ 8 * rd + k ∧ c ≤ n ∧ Hid (len = rs.length) ∧ dv = .slice (some ⟨gd, 0, none⟩) len cd ∧ mv = .slice (some ⟨gm, 0, none⟩) len cm ∧ len ≤ cd ∧ len ≤ cm ∧ Hid (Has w wr bw x U qs (rs.map (·.1)) (marks x) (.slice (some ⟨gd, 0, none⟩) len cd) (.slice (some ⟨gm, 0, none⟩) len cm)) ∧ Hid (Play L x rs c) ∧ Hid (∀ r ∈ rs, r ∈ qs)) (fun _ _ _ kv _ => 8 - (intOf kv).toNat)
      case atStart => exact ⟨0, c, x2, rs, qs, U, len, gd, cd, gm, cm, by decide, rfl, rfl, by omega, hcn, HLen, rfl, rfl, hcd, hcm, HH2, HPl2, HM⟩
      case round =>
        clear HH2 HPl2 HM HLen hcd hcm hc hcn
        obtain ⟨k, c, x, rs, qs, U, len, gd, cd, gm, cm, hk, rfl, rfl, hc, hcn, HLen, rfl, rfl, hcd, hcm, HH, HPl, HM⟩ := hrel
        by_cases hgo : k < 8 ∧ c < n
        · obtain ⟨g3, g4⟩ := hgo
          have i3 : (k : Int) < 8 := by omega
          have i4 : (c : Int) < (n : Int) := by omega
          go_upto_region 25 with fail
          go_cut [154] from 132 to 153 (fun sv wc => sv = .bool false ∧ ∃ x2 : Wal, Hid (Has w wc bw x2 U qs (rs.map (·.1)) (marks x2) (.slice (some ⟨gd, 0, none⟩) len cd) (.slice (some ⟨gm, 0, none⟩) len cm)) ∧ Hid (Play L x2 rs c))
          case first => as_aux_lemma =>
            by_cases h5 : c < n1
            · have i5 : (c : Int) < (n1 : Int) := by omega
              have hr1 := HP.out.1
              obtain ⟨bs1, off1, rfl, _⟩ := hr1.2.2 (by omega)
              have cs : wr.cell? ⟨bs1, off1 + c, none⟩ = some (.int .i64 (l1.getD c 0)) := (hr1.below HH.out.off.below).at c _ (Lists.ints_at (by have := hr1.1; simp [ints] at this; omega))
              generalize l1.getD c 0 = z at cs
              have cS := WalkWalOff.sync_off HH.out.off
              clear hr1
              by_cases hz1 : z = 1
              · subst hz1
                by_cases hy : syncE x = 0
                · rw [hy, errv0] at cS
                  go_wp2_with fail
                  refine cS.mono ?_
                  rintro e w12 ⟨rfl, of12, k12⟩
                  have H12 : Hid (Has w w12 bw (syncW x) U qs (rs.map (·.1)) (marks x) (.slice (some ⟨gd, 0, none⟩) len cd) (.slice (some ⟨gm, 0, none⟩) len cm)) := HH.out.log of12 k12
                  have cF := WalkWalOff.safe_off H12.out.off
                  clear cS of12 k12 cs
                  go_wp2_with fail
                  refine cF.mono ?_
                  rintro e w13 ⟨rfl, b13⟩
                  have H13 : Hid (Has w w13 bw (syncW x) U qs (rs.map (·.1)) (marks x) (.slice (some ⟨gd, 0, none⟩) len cd) (.slice (some ⟨gm, 0, none⟩) len cm)) := H12.out.below b13
                  have cB := WalkWalOff.bytes_off H13.out.off
                  rw [← WalHolds.sync_safe hy] at cB
                  clear cF b13 H12
                  generalize ((syncW x).safe : Int) = V at cB
                  go_wp2_with fail
                  refine cB.mono ?_
                  rintro e w14 ⟨rfl, b14⟩
                  have H14 : Hid (Has w w14 bw (syncW x) U qs (rs.map (·.1)) (marks (syncW x)) (.slice (some ⟨gd, 0, none⟩) len cd) (.slice (some ⟨gm, 0, none⟩) len cm)) := by rw [marks_sync]; exact H13.out.below b14
                  clear cB b14 H13
                  go_wp2_with fail
                  go_meet
                  case rel => exact ⟨by simp, syncW x, H14, WalPlays.play_sync HPl.out⟩
                · rw [errv_pos _ hy] at cS
                  clear hy
                  go_wp2_with fail
                  refine cS.mono ?_
                  rintro e w12 ⟨rfl, of12, k12⟩
                  have H12 : Hid (Has w w12 bw (syncW x) U qs (rs.map (·.1)) (marks (syncW x)) (.slice (some ⟨gd, 0, none⟩) len cd) (.slice (some ⟨gm, 0, none⟩) len cm)) := by rw [marks_sync]; exact HH.out.log of12 k12
                  clear cS of12 k12 cs
                  go_wp2_with fail
                  go_meet
                  case rel => exact ⟨by simp, syncW x, H12, WalPlays.play_sync HPl.out⟩
              · have hz2 : (z == 1) = false := by rw [beq_eq_false_iff_ne]; exact hz1
                clear hz1 cS
                go_wp2_with fail
                go_meet
                case rel => exact ⟨by simp, x, HH, HPl⟩
            · have i5 : ¬ (c : Int) < (n1 : Int) := by omega
              go_wp2_with fail
              go_meet
              case rel => exact ⟨by simp, x, HH, HPl⟩
          obtain ⟨rfl, x2, HH2, HPl2⟩ := hcut
          clear HH HPl
          -- what the document makes of the batch
          as_aux_lemma =>
            obtain ⟨K, hK⟩ : ∃ K : Nat, len = K + 1 := ⟨len - 1, by have := HPl2.out.pos; have := HPl2.out.length; have := HLen.out; omega⟩
            have hKr : K < rs.length := by have := HLen.out; omega
            have hl32 : rs.length ≤ 33 := by have := HPl2.out.few; have := HPl2.out.length; omega
            obtain ⟨l, hlb⟩ : ∃ l, bs[c]? = some l := ⟨_, List.getElem?_eq_getElem (by have := HP.out.2.2.2.1; omega)⟩
            obtain ⟨bb, ob, rfl, hbt⟩ := HP.out.2.2.2.2.2 (by omega)
            obtain ⟨ai, ci, hcb, hwb⟩ := hbt c l hlb
            have hzl : ∀ e ∈ l, e.key.size ≤ maxLen ∧ e.val.size ≤ maxLen := hw l (List.mem_of_getElem? hlb)
            have HBt : Hid (w.cell? ⟨bb, ob + c, none⟩ = some (.slice ai l.length ci) ∧ Wide 3 w ai l.length ci (cells l) ∧ (∀ e ∈ l, e.key.size ≤ maxLen ∧ e.val.size ≤ maxLen)) := ⟨hcb, hwb, hzl⟩
            clear hbt hcb hwb hzl hlb
            have HMK : Hid (rs[K] ∈ qs) := HM.out _ (List.getElem_mem hKr)
            have HCur : Hid ((rs[K]).2 = x2.cur) := by have h := HPl2.out.cur; simp only [show rs.length - 1 = K by have := HLen.out; omega] at h; exact h
            have hdn := owns_at HH2.out.done K _ (WalkWalHas.ptrs_get (by simpa using hKr))
            simp only [List.getElem_map] at hdn
            obtain ⟨D, hdl, hDU⟩ := HH2.out.docs _ HMK.out
            rw [HCur.out] at hdl
            have hfc := HPl2.out.curFine
            generalize (rs[K]).1 = G at hdn hdl
            have HDL : Hid (DL wc w.heap.size G D x2.cur ∧ (∀ k, D k → U k) ∧ LsmFines.Fine L x2.cur (20 * c)) := ⟨hdl, hDU, hfc⟩
            have i5 : (len : Int) - 1 = (K : Int) := by omega
            have i6 : IntKind.i64.wrap (K : Int) = (K : Int) := by rw [IntKind.wrap_i64]; omega
            have i7 : (K : Int) < (len : Int) := by omega
            have i8 : (0 : Int) ≤ (K : Int) := by omega
            have hcl : wc.cell? ⟨bb, ob + c, none⟩ = some (.slice ai l.length ci) := Lists.cell_below HH2.out.off.below HBt.out.1
            have HCB : Hid (∀ w', Below wc.heap.size wc w' → Calls Tryz.prog 13 #[.pointer (some ⟨G, 0, none⟩), .slice ai l.length ci] w' fun e w'' => ∃ g' D', e = .returned (.tuple #[.pointer (some ⟨g', 0, none⟩), .int .i64 (batchE x2.cur l : Nat)]) ∧ DL w'' w.heap.size g' D' (batched x2.cur l) ∧ (∀ k, D' k → D k ∨ w'.heap.size ≤ k) ∧ Below w'.heap.size w' w'') := fun w' b' =>
              WalkBatchRef.batch_every (WalkWalHas.dl_kept HDL.out.1 (Kept.of_below (fun _ => False) b') fun _ _ q => q) (Nat.le_trans HH2.out.off.below.size b'.size) HDL.out.2.2 (by omega) l ai l.length ci (HBt.out.2.1.below (bt HH2.out.off.below b')) HBt.out.2.2
            have HSS : Hid (∀ w', Below wc.heap.size wc w' → w'.cell? ⟨gd, K, none⟩ = some (.pointer (some ⟨G, 0, none⟩)) ∧ w'.cell? ⟨bb, ob + c, none⟩ = some (.slice ai l.length ci)) := fun w' b' => ⟨Lists.cell_below b' hdn, Lists.cell_below b' hcl⟩
            obtain ⟨E5, HE5⟩ : ∃ E5 : Nat, Hid (batchE x2.cur l = E5) := ⟨_, rfl⟩
            rw [HE5.out] at HCB
            clear hdl hDU hfc hK HCur HMK
            go_upto_region 27 with fail
            obtain ⟨s0, s1⟩ := HSS.out _ (Below.refl _ wc).drew
            go_region_held (fun w' => w'.cell? ⟨gd, K, none⟩ = some (.pointer (some ⟨G, 0, none⟩)) ∧ w'.cell? ⟨bb, ob + c, none⟩ = some (.slice ai l.length ci)) (first | exact ⟨s0, s1⟩ | go_keep)
              (first | (go_at_call 13; refine (HCB.out _ (Below.refl _ wc).drew).mono ?_; rintro e w13 ⟨g', D', rfl, hd', hD', b13⟩; have HB13 : Hid (Below wc.heap.size wc w13) := bt (Below.refl _ wc).drew b13; obtain ⟨s0, s1⟩ := HSS.out _ HB13.out; clear b13))
            as_aux_lemma =>
              have H13 : Hid (Has w w13 bw x2 (fun k => U k ∨ (wc.heap.size ≤ k ∧ k < w13.heap.size)) (qs ++ [(g', batched x2.cur l)]) (rs.map (·.1)) (marks x2) (.slice (some ⟨gd, 0, none⟩) len cd) (.slice (some ⟨gm, 0, none⟩) len cm)) := HH2.out.learn HB13.out hd' fun k hk => (hD' k hk).imp (HDL.out.2.1 k) id
              generalize (fun k => U k ∨ (wc.heap.size ≤ k ∧ k < w13.heap.size)) = U2 at H13
              have cB := WalkWalOff.bytes_off H13.out.off
              have HBy : Hid (x2.bytes ≤ 3300000) := by have := HPl2.out.bytes; show _ ≤ _; omega
              clear hd' hD' HB13 HH2 HCB HSS HDL s0 s1 hdn hcl i5 i6 i7 i8
              obtain ⟨BX, HBX⟩ : ∃ BX : Nat, Hid (x2.bytes = BX) := ⟨_, rfl⟩
              rw [HBX.out] at cB HBy
              go_wp2_with fail
              refine cB.mono ?_
              rintro e w14 ⟨rfl, b14⟩
              have H14 : Hid (Has w w14 bw x2 U2 (qs ++ [(g', batched x2.cur l)]) (rs.map (·.1)) (marks x2) (.slice (some ⟨gd, 0, none⟩) len cd) (.slice (some ⟨gm, 0, none⟩) len cm)) := H13.out.below b14
              have hcl : w14.cell? ⟨bb, ob + c, none⟩ = some (.slice ai l.length ci) := Lists.cell_below H14.out.off.below HBt.out.1
              have cP := WalkWalOff.put_off H14.out.off (by have := HPl2.out.few; omega) l ai l.length ci HBt.out.2.1 HBt.out.2.2
              obtain ⟨PE, HPE⟩ : ∃ PE : Nat, Hid (putWE x2 l = PE) := ⟨_, rfl⟩
              rw [HPE.out] at cP
              clear cB b14 H13
              go_wp2_with fail
              refine cP.mono ?_
              rintro e w15 ⟨rfl, ⟨bn, btl, hbn1, hbn2, hbn3, of15⟩, k15⟩
              have H15 : Hid (Has w w15 bw (putW x2 l bn btl) U2 (qs ++ [(g', batched x2.cur l)]) (rs.map (·.1)) (marks x2) (.slice (some ⟨gd, 0, none⟩) len cd) (.slice (some ⟨gm, 0, none⟩) len cm)) := H14.out.log of15 k15
              have HBn : Hid (2 ≤ bn ∧ bn ≤ 100000 ∧ btl < bn) := ⟨hbn1, hbn2, hbn3⟩
              have HTd : Hid (PE = 6 ∨ PE = E5) := by have h := WalHolds.told x2 l; rw [HPE.out, HE5.out] at h; exact h
              clear cP of15 k15 H14 hcl hbn1 hbn2 hbn3
              go_wp2_with fail
              refine (HErr.out _ _ _ H15.out.off.below).mono ?_
              rintro e w16 ⟨rfl, b16⟩
              have H16 : Hid (Has w w16 bw (putW x2 l bn btl) U2 (qs ++ [(g', batched x2.cur l)]) (rs.map (·.1)) (marks x2) (.slice (some ⟨gd, 0, none⟩) len cd) (.slice (some ⟨gm, 0, none⟩) len cm)) := H15.out.below b16
              clear b16 H15
              obtain ⟨s6, HS6⟩ : ∃ s6 : Bool, Hid (((PE : Int) == 6) = s6) := ⟨_, rfl⟩
              rw [HS6.out]
              go_wp2_with fail
              refine (HErr.out _ _ _ H16.out.off.below).mono ?_
              rintro e w17 ⟨rfl, b17⟩
              have H17 : Hid (Has w w17 bw (putW x2 l bn btl) U2 (qs ++ [(g', batched x2.cur l)]) (rs.map (·.1)) (marks x2) (.slice (some ⟨gd, 0, none⟩) len cd) (.slice (some ⟨gm, 0, none⟩) len cm)) := H16.out.below b17
              clear b17 H16
              obtain ⟨s7, HS7⟩ : ∃ s7 : Bool, Hid (((PE : Int) == (E5 : Int)) = s7) := ⟨_, rfl⟩
              rw [HS7.out]
              have HOr : Hid (s6 = true ∨ s7 = true) := by
                rcases HTd.out with q | q
                · exact .inl (by rw [← HS6.out, q]; rfl)
                · exact .inr (by rw [← HS7.out, q]; simp)
              go_upto_region 33 with fail
              go_cut [189] from 184 to 188 (fun sv wc => sv = .bool false ∧ wc = w17)
              case first => as_aux_lemma =>
                rcases HOr.out with rfl | rfl
                · go_wp2_with fail
                  go_meet
                  case rel => exact ⟨by simp, by simp⟩
                · cases s6
                  · go_wp2_with fail
                    go_meet
                    case rel => exact ⟨by simp, by simp⟩
                  · go_wp2_with fail
                    go_meet
                    case rel => exact ⟨by simp, by simp⟩
              obtain ⟨rfl, rfl⟩ := hcut
              as_aux_lemma =>
                have ee := err_eql PE
                have eg := err_guard PE
                obtain ⟨Bz, HBz⟩ : ∃ Bz : Bool, Hid (decide (PE = 0) = Bz) := ⟨_, rfl⟩
                rw [HBz.out] at ee
                go_upto_if 191 with fail
                go_cut [19, 20] from 192 to 205 (fun s19 s20 wd => ∃ (x3 : Wal) (rs3 qs3 : List (Nat × Lsm)) (U3 : Nat → Prop) (len3 gd3 cd3 gm3 cm3 : Nat), Hid (len3 = rs3.length) ∧ s19 = .slice (some ⟨gd3, 0, none⟩) len3 cd3 ∧ s20 = .slice (some ⟨gm3, 0, none⟩) len3 cm3 ∧ len3 ≤ cd3 ∧ len3 ≤ cm3 ∧ Hid (Has w wd bw x3 U3 qs3 (rs3.map (·.1)) (marks x3) (.slice (some ⟨gd3, 0, none⟩) len3 cd3) (.slice (some ⟨gm3, 0, none⟩) len3 cm3)) ∧ Hid (Play L x3 rs3 (c + 1)) ∧ Hid (∀ r ∈ rs3, r ∈ qs3))
                case first => as_aux_lemma =>
                  obtain ⟨hbn1, hbn2, hbn3⟩ := HBn.out
                  cases Bz with
                  | false =>
                    have hne : putWE x2 l ≠ 0 := by rw [HPE.out]; exact of_decide_eq_false HBz.out
                    go_wp2_with fail
                    go_meet
                    case rel => exact ⟨putW x2 l bn btl, rs, _, U2, len, gd, cd, gm, cm, HLen, by simp, by simp, hcd, hcm, by rw [marks_not hne]; exact H17, WalPlays.play_not HPl2.out hne hbn1 hbn2 hbn3, fun r hr => List.mem_append_left _ (HM.out r hr)⟩
                  | true =>
                    have heq : putWE x2 l = 0 := by rw [HPE.out]; exact of_decide_eq_true HBz.out
                    obtain ⟨hpl, hby, hmk⟩ := WalPlays.play_done (g := g') (t := btl) HPl2.out heq hbn1 hbn2
                    have HPL : Hid (Play L (putW x2 l bn btl) (rs ++ [(g', batched x2.cur l)]) (c + 1)) := hpl
                    have HMk : Hid (marks (putW x2 l bn btl) = marks x2 ++ [((putW x2 l bn btl).bytes : Int)]) := hmk
                    have cB := fun (w' : World) (h : Has w w' bw (putW x2 l bn btl) U2 (qs ++ [(g', batched x2.cur l)]) (rs.map (·.1)) (marks x2) (.slice (some ⟨gd, 0, none⟩) len cd) (.slice (some ⟨gm, 0, none⟩) len cm)) => WalkWalOff.bytes_off h.off
                    rw [HBX.out] at hby
                    obtain ⟨BY, HBY⟩ : ∃ BY : Nat, Hid ((putW x2 l bn btl).bytes = BY) := ⟨_, rfl⟩
                    rw [HBY.out] at cB hby HMk
                    have j1 : ¬ (BY : Int) < (BX : Int) + 2 := by omega
                    have j2 : (BX : Int) ≤ 3300000 := by have := HBy.out; omega
                    have j3 : (0 : Int) ≤ (BX : Int) := by omega
                    have c1 := cB _ H17.out
                    obtain ⟨i0, hi, hz0, hz1, hz2⟩ := info_parts infoPt
                    obtain ⟨i9, hi9, hz90, hz91, hz92⟩ := info_parts infoI
                    have hlr : len ≤ 33 := by have := HLen.out; omega
                    clear hpl hmk hby
                    go_wp2_with fail
                    refine c1.mono ?_
                    rintro e w18 ⟨rfl, b18⟩
                    have H18 : Hid (Has w w18 bw (putW x2 l bn btl) U2 (qs ++ [(g', batched x2.cur l)]) (rs.map (·.1)) (marks x2) (.slice (some ⟨gd, 0, none⟩) len cd) (.slice (some ⟨gm, 0, none⟩) len cm)) := H17.out.below b18
                    have hdo := H18.out.done
                    rw [show (rs.map (·.1)).length = len by rw [List.length_map]; exact HLen.out.symm] at hdo
                    have HDo : Hid (w18.ownsRow w.heap.size 39 1 (.slice (some ⟨gd, 0, none⟩) len cd) len (ptrs (rs.map (·.1)))) := hdo
                    clear c1 b18 hdo
                    go_upto_region 39 with (at_builtin; go_must (refine wpList_append_own_at _ rfl (.tmp 197) (.tmp 199) 42 rfl w.heap.size 39 i0 (.pointer none) 1 8 Tryz.underlying42 hi hz0 hz1 hz2 rfl (by decide) _ _ _ rfl (HDo.out.alloc _) ⟨w18.heap.size, 0, none⟩ 1 1 [.pointer (some ⟨g', 0, none⟩)] rfl rfl (one_at _ _ _) (fun u hu => by simp at hu; subst hu; rfl) (by unfold maxLen; omega) (by omega) (by have := H18.out.off.below.size; simp; omega) ?_); intro v1 wn o1 g1 z1 y1; clear z1)
                    have HO1 : Hid (wn.ownsRow w.heap.size 39 1 v1 (len + 1) (ptrs (rs.map (·.1)) ++ [.pointer (some ⟨g', 0, none⟩)])) := o1
                    have HK1 : Hid (Kept (fun k => (Value.slice (some ⟨gd, 0, none⟩) len cd).ownBlock = some k) w18 wn) := ((Kept.refl _ w18).alloc _).grown g1 fun k hk => .inl hk
                    have HY1 : Hid (∀ k, v1.ownBlock = some k → (Value.slice (some ⟨gd, 0, none⟩) len cd).ownBlock = some k ∨ w18.heap.size ≤ k) := by
                      intro k hk
                      rcases y1 with q | q
                      · exact .inl (q.symm.trans hk)
                      · rw [q] at hk
                        simp at hk
                        exact .inr (by omega)
                    clear o1 g1 y1
                    obtain ⟨gd3, cd3, rfl, _, _, _, hcd3, _, _, _⟩ := Keeps.owns_open HO1.out (by omega)
                    have H19 : Hid (Has w wn bw (putW x2 l bn btl) U2 (qs ++ [(g', batched x2.cur l)]) ((rs ++ [(g', batched x2.cur l)]).map (·.1)) (marks x2) (.slice (some ⟨gd3, 0, none⟩) (len + 1) cd3) (.slice (some ⟨gm, 0, none⟩) len cm)) := H18.out.setDone HK1.out (by
                      have e : ((rs ++ [(g', batched x2.cur l)]).map (·.1)).length = len + 1 := by rw [List.length_map, List.length_append, HLen.out]; rfl
                      rw [e, List.map_append]
                      simpa [ptrs] using HO1.out) HY1.out
                    have c2 := WalkWalOff.bytes_off H19.out.off
                    rw [HBY.out] at c2
                    clear HO1 HK1 HY1 HDo H18
                    go_wp2_with fail
                    refine c2.mono ?_
                    rintro e w20 ⟨rfl, b20⟩
                    have H20 : Hid (Has w w20 bw (putW x2 l bn btl) U2 (qs ++ [(g', batched x2.cur l)]) ((rs ++ [(g', batched x2.cur l)]).map (·.1)) (marks x2) (.slice (some ⟨gd3, 0, none⟩) (len + 1) cd3) (.slice (some ⟨gm, 0, none⟩) len cm)) := H19.out.below b20
                    have hmo := H20.out.marks
                    have hml : (marks x2).length = len := by rw [WalPlays.marks_length, ← HPl2.out.length]; exact HLen.out.symm
                    rw [hml] at hmo
                    have HMo : Hid (w20.ownsRow w.heap.size 3 1 (.slice (some ⟨gm, 0, none⟩) len cm) len (ints (marks x2))) := hmo
                    have HMl : Hid ((marks x2).length = len) := hml
                    clear c2 b20 hmo hml H19
                    go_wp2_with (at_builtin; go_must (refine wpList_append_own_at _ rfl (.tmp 201) (.tmp 204) 23 rfl w.heap.size 3 i9 (.int .i64 0) 1 8 Tryz.underlying23 hi9 hz90 hz91 hz92 rfl (by decide) _ _ _ rfl (HMo.out.alloc _) ⟨w20.heap.size, 0, none⟩ 1 1 [.int .i64 (BY : Int)] rfl rfl (one_at _ _ _) (fun u hu => by simp at hu; subst hu; rfl) (by unfold maxLen; omega) (by omega) (by have := H20.out.off.below.size; simp; omega) ?_); intro v2 wm o2 g2 z2 y2; clear z2)
                    have HO2 : Hid (wm.ownsRow w.heap.size 3 1 v2 (len + 1) (ints (marks x2) ++ [.int .i64 (BY : Int)])) := o2
                    have HK2 : Hid (Kept (fun k => (Value.slice (some ⟨gm, 0, none⟩) len cm).ownBlock = some k) w20 wm) := ((Kept.refl _ w20).alloc _).grown g2 fun k hk => .inl hk
                    have HY2 : Hid (∀ k, v2.ownBlock = some k → (Value.slice (some ⟨gm, 0, none⟩) len cm).ownBlock = some k ∨ w20.heap.size ≤ k) := by
                      intro k hk
                      rcases y2 with q | q
                      · exact .inl (q.symm.trans hk)
                      · rw [q] at hk
                        simp at hk
                        exact .inr (by omega)
                    clear o2 g2 y2
                    obtain ⟨gm3, cm3, rfl, _, _, _, hcm3, _, _, _⟩ := Keeps.owns_open HO2.out (by omega)
                    have H21 : Hid (Has w wm bw (putW x2 l bn btl) U2 (qs ++ [(g', batched x2.cur l)]) ((rs ++ [(g', batched x2.cur l)]).map (·.1)) (marks (putW x2 l bn btl)) (.slice (some ⟨gd3, 0, none⟩) (len + 1) cd3) (.slice (some ⟨gm3, 0, none⟩) (len + 1) cm3)) := by
                      rw [HMk.out]
                      refine H20.out.setMarks HK2.out ?_ HY2.out
                      rw [List.length_append, HMl.out]
                      simpa [ints] using HO2.out
                    clear HO2 HK2 HY2 HMo H20
                    go_meet
                    case rel => exact ⟨putW x2 l bn btl, rs ++ [(g', batched x2.cur l)], _, U2, len + 1, gd3, cd3, gm3, cm3, by show _ = _; rw [List.length_append, HLen.out]; rfl, by simp, by simp, hcd3, hcm3, H21, HPL, fun r hr => by
                      rcases List.mem_append.1 hr with q | q
                      · exact List.mem_append_left _ (HM.out r q)
                      · exact List.mem_append_right _ q⟩
                obtain ⟨x3, rs3, qs3, U3, len3, gd3, cd3, gm3, cm3, HLen3, rfl, rfl, hcd3, hcm3, HH3, HPl3, HM3⟩ := hcut
                clear HPl2 HLen HM H17 HBn HBX HE5 HPE HTd HOr HS6 HS7 HBz ee eg HBy hcd hcm hKr hl32 HBt
                -- it is what the document has
                as_aux_lemma =>
                  obtain ⟨K, hK⟩ : ∃ K : Nat, len3 = K + 1 := ⟨len3 - 1, by have := HPl3.out.pos; have := HPl3.out.length; have := HLen3.out; omega⟩
                  have hKr : K < rs3.length := by have := HLen3.out; omega
                  have hl33 : len3 ≤ 34 := by have := HPl3.out.few; have := HPl3.out.length; have := HLen3.out; omega
                  have HMK : Hid (rs3[K] ∈ qs3) := HM3.out _ (List.getElem_mem hKr)
                  have HCur : Hid ((rs3[K]).2 = x3.cur) := by have h := HPl3.out.cur; simp only [show rs3.length - 1 = K by have := HLen3.out; omega] at h; exact h
                  have HDo : Hid (∀ (w' : World), Has w w' bw x3 U3 qs3 (rs3.map (·.1)) (marks x3) (.slice (some ⟨gd3, 0, none⟩) len3 cd3) (.slice (some ⟨gm3, 0, none⟩) len3 cm3) → w'.cell? ⟨gd3, K, none⟩ = some (.pointer (some ⟨(rs3[K]).1, 0, none⟩)) ∧ ∃ D, DL w' w.heap.size (rs3[K]).1 D x3.cur) := by
                    intro w' h
                    have h1 := owns_at h.done K _ (WalkWalHas.ptrs_get (by simpa using hKr))
                    simp only [List.getElem_map] at h1
                    obtain ⟨D, h2, _⟩ := h.docs _ HMK.out
                    rw [HCur.out] at h2
                    exact ⟨h1, D, h2⟩
                  generalize (rs3[K]).1 = G at HDo
                  have HFb : Hid (x3.cur.size ≤ 10000 ∧ Lsms.total x3.cur.lists ≤ 1000 ∧ x3.cur.levels.length ≤ 900 ∧ (∀ l ∈ x3.cur.levels, Tabs.pairsE l = 0 ∧ l.length ≤ 1000) ∧ x3.cur.all.length ≤ 1000) := fine_bounds HPl3.out.curFine (by omega)
                  have i5 : (len3 : Int) - 1 = (K : Int) := by omega
                  have i7 : (K : Int) < (len3 : Int) := by omega
                  have i8 : (0 : Int) ≤ (K : Int) := by omega
                  have dn := (HDo.out _ HH3.out).1
                  have cL := WalkWalOff.lsm_off HH3.out.off
                  clear hK HMK HCur hKr
                  have i6 : IntKind.i64.wrap (K : Int) = (K : Int) := by rw [IntKind.wrap_i64]; omega
                  have i9 : IntKind.i64.wrap ((len3 : Int) - 1) = (K : Int) := by rw [IntKind.wrap_i64]; omega
                  go_wp2_with fail
                  refine cL.mono ?_
                  rintro e w22 ⟨b22, F22, rfl, ls22, bl22⟩
                  have H22 : Hid (Has w w22 bw x3 U3 qs3 (rs3.map (·.1)) (marks x3) (.slice (some ⟨gd3, 0, none⟩) len3 cd3) (.slice (some ⟨gm3, 0, none⟩) len3 cm3)) := HH3.out.below bl22
                  have cA := WalkLs.all_any ls22 HFb.out.1
                  clear cL bl22 ls22 HH3 dn
                  go_wp2_with fail
                  refine cA.mono ?_
                  rintro e w23 ⟨v23, rfl, o23, bl23⟩
                  obtain ⟨a23, c23, rfl, r23⟩ := owns_wide o23
                  have H23 : Hid (Has w w23 bw x3 U3 qs3 (rs3.map (·.1)) (marks x3) (.slice (some ⟨gd3, 0, none⟩) len3 cd3) (.slice (some ⟨gm3, 0, none⟩) len3 cm3)) := H22.out.below bl23
                  have HR23 : Hid (Wide 3 w23 a23 x3.cur.all.length c23 (cells x3.cur.all)) := r23
                  obtain ⟨_, D1, dl1⟩ := HDo.out _ H23.out
                  have cD := WalkFlushRef.all_any dl1 HFb.out.2.1 (by have := HFb.out.2.2.1; omega)
                  clear cA bl23 o23 r23 dl1 H22
                  go_wp2_with fail
                  refine cD.mono ?_
                  rintro e w24 ⟨v24, rfl, o24, bl24⟩
                  obtain ⟨a24, c24, rfl, r24⟩ := owns_wide o24
                  have H24 : Hid (Has w w24 bw x3 U3 qs3 (rs3.map (·.1)) (marks x3) (.slice (some ⟨gd3, 0, none⟩) len3 cd3) (.slice (some ⟨gm3, 0, none⟩) len3 cm3)) := H23.out.below bl24
                  have cS := WalkPairsSame.pairs_same x3.cur.all a23 a24 x3.cur.all.length c23 c24 w24 (HR23.out.below bl24) r24 (by have := HFb.out.2.2.2.2; omega)
                  clear cD bl24 o24 r24 H23 HR23
                  generalize x3.cur.all.length = NA at cS
                  go_wp2_with fail
                  refine cS.mono ?_
                  rintro e w25 ⟨rfl, bl25⟩
                  have H25 : Hid (Has w w25 bw x3 U3 qs3 (rs3.map (·.1)) (marks x3) (.slice (some ⟨gd3, 0, none⟩) len3 cd3) (.slice (some ⟨gm3, 0, none⟩) len3 cm3)) := H24.out.below bl25
                  have cL := WalkWalOff.lsm_off H25.out.off
                  clear cS bl25 H24
                  go_wp2_with fail
                  refine cL.mono ?_
                  rintro e w26 ⟨b26, F26, rfl, ls26, bl26⟩
                  have H26 : Hid (Has w w26 bw x3 U3 qs3 (rs3.map (·.1)) (marks x3) (.slice (some ⟨gd3, 0, none⟩) len3 cd3) (.slice (some ⟨gm3, 0, none⟩) len3 cm3)) := H25.out.below bl26
                  have cT := WalkLs.tables_any ls26 HFb.out.1
                  clear cL bl26 ls26 H25
                  go_wp2_with fail
                  refine cT.mono ?_
                  rintro e w27 ⟨v27, rfl, o27, bl27⟩
                  obtain ⟨a27, c27, rfl, r27, _⟩ := owns_row o27
                  have H27 : Hid (Has w w27 bw x3 U3 qs3 (rs3.map (·.1)) (marks x3) (.slice (some ⟨gd3, 0, none⟩) len3 cd3) (.slice (some ⟨gm3, 0, none⟩) len3 cm3)) := H26.out.below bl27
                  have HR27 : Hid (Row w27 a27 x3.cur.levels.length c27 (Lists.strs (WalkTablesRef.tabs x3.cur.levels))) := r27
                  obtain ⟨_, D2, dl2⟩ := HDo.out _ H27.out
                  have cU := WalkTablesRef.tables_any dl2 HFb.out.2.2.1 HFb.out.2.2.2.1
                  clear cT bl27 o27 r27 dl2 H26
                  go_wp2_with fail
                  refine cU.mono ?_
                  rintro e w28 ⟨v28, rfl, o28, bl28⟩
                  obtain ⟨a28, c28, rfl, r28, _⟩ := owns_row o28
                  have H28 : Hid (Has w w28 bw x3 U3 qs3 (rs3.map (·.1)) (marks x3) (.slice (some ⟨gd3, 0, none⟩) len3 cd3) (.slice (some ⟨gm3, 0, none⟩) len3 cm3)) := H27.out.below bl28
                  have cS := WalkTexts.texts_same (WalkTablesRef.tabs x3.cur.levels) a27 a28 x3.cur.levels.length c27 c28 w28 (HR27.out.below bl28) r28 (by have := HFb.out.2.2.1; omega)
                  clear cU bl28 o28 r28 H27 HR27
                  generalize x3.cur.levels.length = NL at cS
                  go_wp2_with fail
                  refine cS.mono ?_
                  rintro e w29 ⟨rfl, bl29⟩
                  have H29 : Hid (Has w w29 bw x3 U3 qs3 (rs3.map (·.1)) (marks x3) (.slice (some ⟨gd3, 0, none⟩) len3 cd3) (.slice (some ⟨gm3, 0, none⟩) len3 cm3)) := H28.out.below bl29
                  clear cS bl29 H28 HDo HFb
                  go_wp2_with fail
                  go_roundw
                  case rel => exact ⟨k + 1, c + 1, x3, rs3, qs3, U3, len3, gd3, cd3, gm3, cm3, by omega, by go_num, by go_num, by omega, by omega, HLen3, rfl, rfl, hcd3, hcm3, H29, HPl3, HM3⟩
                  case measure => simp [intOf]; omega
        · -- behind the batches of a round
          go_upto_region 23 with fail
          go_cut [129] from 122 to 128 (fun sv wd => sv = .bool false ∧ wr = wd)
          case first => as_aux_lemma =>
            by_cases h8 : k < 8
            · have i3 : (k : Int) < 8 := by omega
              have i4 : ¬ (c : Int) < (n : Int) := by omega
              clear hgo
              go_wp2_with fail
              go_meet
              case rel => exact ⟨by simp, by simp⟩
            · have i3 : ¬ (k : Int) < 8 := by omega
              clear hgo
              go_wp2_with fail
              go_meet
              case rel => exact ⟨by simp, by simp⟩
          obtain ⟨rfl, rfl⟩ := hcut
          clear hgo
          go_upto_if 233 with fail
          go_cut [33, 233] from 234 to 237 (fun kv _ wd => ∃ keep : Int, kv = .int .i64 keep ∧ -9223372036854775808 ≤ keep ∧ keep ≤ 9223372036854775807 ∧ wr = wd)
          case first => as_aux_lemma =>
            by_cases h3 : rd < n3
            · have i3 : (rd : Int) < (n3 : Int) := by omega
              have hr3 := HP.out.2.2.1
              obtain ⟨bk, ok, rfl, _⟩ := hr3.2.2 (by omega)
              have hj : rd < l3.length := by have := hr3.1; simp [ints] at this; omega
              have ck : wr.cell? ⟨bk, ok + rd, none⟩ = some (.int .i64 (l3.getD rd 0)) := (hr3.below HH.out.off.below).at rd _ (Lists.ints_at hj)
              have hb := wf_i64 (hw3 (l3.getD rd 0) (by rw [List.getD_eq_getElem?_getD, List.getElem?_eq_getElem hj]; exact List.getElem_mem hj))
              generalize l3.getD rd 0 = z at ck hb
              clear hr3
              go_wp2_with fail
              go_meet
              case rel => exact ⟨z, by simp, hb.1, hb.2, by simp⟩
            · have i3 : ¬ (rd : Int) < (n3 : Int) := by omega
              go_wp2_with fail
              go_meet
              case rel => exact ⟨0, by simp, by omega, by omega, by simp⟩
          obtain ⟨keep, rfl, hk1, hk2, rfl⟩ := hcut
          as_aux_lemma =>
            have hl33 : len ≤ 33 := by have := HPl.out.few; have := HPl.out.length; have := HLen.out; omega
            have hby : x.bytes ≤ 3300000 := by have := HPl.out.bytes; omega
            have hsf : x.safe ≤ x.bytes := HPl.out.ok.safe
            have HHi : Hid (((high x keep : Nat) : Int) = if 0 < keep then (if keep < (x.bytes : Int) - x.safe then (x.safe : Int) + keep else x.bytes) else x.safe) := WalPlays.high_eq x keep
            have cB := WalkWalOff.bytes_off HH.out.off
            have HSf : Hid (∀ w', Below wr.heap.size wr w' → Calls Tryz.prog 11 #[.pointer (some ⟨bw, 0, none⟩)] w' fun e w'' => e = .returned (.int .i64 (x.safe : Nat)) ∧ Below w'.heap.size w' w'') := fun w' b' => WalkWalOff.safe_off (HH.out.below b').off
            obtain ⟨BX, HBX⟩ : ∃ BX : Nat, Hid (x.bytes = BX) := ⟨_, rfl⟩
            obtain ⟨SX, HSX⟩ : ∃ SX : Nat, Hid (x.safe = SX) := ⟨_, rfl⟩
            rw [HBX.out] at cB hby hsf HHi
            rw [HSX.out] at HSf hsf HHi
            go_wp2_with fail
            refine cB.mono ?_
            rintro e w31 ⟨rfl, b31⟩
            have c2 := HSf.out _ b31
            clear cB
            go_wp2_with fail
            refine c2.mono ?_
            rintro e w32 ⟨rfl, b32⟩
            have H32 : Hid (Has w w32 bw x U qs (rs.map (·.1)) (marks x) (.slice (some ⟨gd, 0, none⟩) len cd) (.slice (some ⟨gm, 0, none⟩) len cm)) := (HH.out.below b31).below b32
            have c3 := WalkWalOff.crash_off H32.out.off (by have := HPl.out.length; have := HLen.out; omega) keep
            clear c2 b31 b32 HH HSf
            go_wp2_with fail
            refine c3.mono ?_
            rintro e w33 ⟨rfl, of33, k33⟩
            have H33 : Hid (Has w w33 bw (crashW x keep) U qs (rs.map (·.1)) (marks x) (.slice (some ⟨gd, 0, none⟩) len cd) (.slice (some ⟨gm, 0, none⟩) len cm)) := H32.out.log of33 k33
            obtain ⟨m, hm, hlf, hpl, hmk, hmb, hcs, hcr⟩ := WalPlays.play_crash HPl.out keep
            have HC : Hid (WalPlays.leftOf (marks x) (high x keep : Nat) (marks x).length = m ∧ Play L (crashW x keep) (rs.take (m + 1)) c ∧ marks (crashW x keep) = (marks x).take (m + 1) ∧ (marks x)[m]? = some ((crashW x keep).bytes : Int) ∧ (crashW x keep).safe = (crashW x keep).bytes ∧ (crashW x keep).cur = (rs[m]).2) := ⟨hlf, hpl, hmk, hmb, hcs, hcr⟩
            obtain ⟨HI, HHI⟩ : ∃ HI : Nat, Hid (high x keep = HI) := ⟨_, rfl⟩
            rw [HHI.out] at HHi HC
            clear c3 of33 k33 H32 hlf hpl hmk hmb hcs hcr
            as_aux_lemma =>
              go_upto_region 52 with fail
              go_cut [254] from 246 to 253 (fun sv wd => sv = .bool (decide (0 < keep ∧ keep < (BX : Int) - (SX : Int))) ∧ w33 = wd)
              case first => as_aux_lemma =>
                by_cases h0 : 0 < keep
                · by_cases h1 : keep < (BX : Int) - (SX : Int)
                  · have hd : decide (0 < keep ∧ keep < (BX : Int) - (SX : Int)) = true := decide_eq_true ⟨h0, h1⟩
                    go_wp2_with fail
                    go_meet
                    case rel => exact ⟨by first | rw [hd] | simp [h0, h1], by simp⟩
                  · have hd : decide (0 < keep ∧ keep < (BX : Int) - (SX : Int)) = false := decide_eq_false fun q => h1 q.2
                    go_wp2_with fail
                    go_meet
                    case rel => exact ⟨by first | rw [hd] | simp [h0, h1], by simp⟩
                · have hd : decide (0 < keep ∧ keep < (BX : Int) - (SX : Int)) = false := decide_eq_false fun q => h0 q.1
                  go_wp2_with fail
                  go_meet
                  case rel => exact ⟨by first | rw [hd] | simp [h0], by simp⟩
              obtain ⟨rfl, rfl⟩ := hcut
              obtain ⟨Bq, HBq⟩ : ∃ Bq : Bool, Hid (decide (0 < keep ∧ keep < (BX : Int) - (SX : Int)) = Bq) := ⟨_, rfl⟩
              rw [HBq.out]
              go_upto_if 254 with fail
              go_cut [36] from 255 to 260 (fun hv wd => hv = .int .i64 (HI : Int) ∧ w33 = wd)
              case first => as_aux_lemma =>
                have hhi := HHi.out
                cases Bq with
                | true =>
                  obtain ⟨h0, h1⟩ := of_decide_eq_true HBq.out
                  rw [if_pos h0, if_pos h1] at hhi
                  have HX : Hid ((SX : Int) + keep = (HI : Int)) := hhi.symm
                  clear hhi
                  go_wp2_with fail
                  go_meet
                  case rel => exact ⟨by simp [HX.out], by simp⟩
                | false =>
                  have hn := of_decide_eq_false HBq.out
                  by_cases h0 : 0 < keep
                  · rw [if_pos h0, if_neg (fun q => hn ⟨h0, q⟩)] at hhi
                    have HX : Hid ((BX : Int) = (HI : Int)) := hhi.symm
                    clear hhi hn
                    go_wp2_with fail
                    go_meet
                    case rel => exact ⟨by simp [HX.out], by simp⟩
                  · rw [if_neg h0] at hhi
                    have HX : Hid ((SX : Int) = (HI : Int)) := hhi.symm
                    clear hhi hn
                    go_wp2_with fail
                    go_meet
                    case rel => exact ⟨by simp [HX.out], by simp⟩
              obtain ⟨rfl, rfl⟩ := hcut
              clear HHi HBq hk1 hk2 hby hsf HBX HSX
              -- how many are left
              as_aux_lemma =>
                have HMl : Hid ((marks x).length = len) := by show _ = _; rw [WalPlays.marks_length, ← HPl.out.length]; exact HLen.out.symm
                have HMc : Hid (∀ j u, (ints (marks x))[j]? = some u → w33.cell? ⟨gm, j, none⟩ = some u) := owns_at H33.out.marks
                have hmr : m < len := by have := HLen.out; omega
                go_upto_region 58 with fail
                go_loopw [37, 38] (fun lv iv wd => ∃ i : Nat, i ≤ len ∧ iv = .int .i64 (i : Int) ∧ lv = .int .i64 ((WalPlays.leftOf (marks x) (HI : Int) i : Nat) : Int) ∧ w33 = wd) (fun _ iv _ => len - (intOf iv).toNat)
                case atStart => exact ⟨0, Nat.zero_le _, rfl, rfl, rfl⟩
                case round =>
                  obtain ⟨i, hi, rfl, rfl, rfl⟩ := hrel
                  by_cases hlt : i < len
                  · have i3 : (i : Int) < (len : Int) := by omega
                    have hj : i < (marks x).length := by rw [HMl.out]; exact hlt
                    have cm0 := HMc.out i _ (Lists.ints_at hj)
                    have HLf : Hid (WalPlays.leftOf (marks x) (HI : Int) (i + 1) = if (marks x).getD i 0 ≤ (HI : Int) then i else WalPlays.leftOf (marks x) (HI : Int) i) := rfl
                    generalize (marks x).getD i 0 = z at cm0 HLf
                    by_cases hz : z ≤ (HI : Int)
                    · rw [if_pos hz] at HLf
                      generalize WalPlays.leftOf (marks x) (HI : Int) i = LF
                      go_wp2_with fail
                      go_roundw
                      case rel => exact ⟨i + 1, by omega, by go_num, by rw [HLf.out], by first | rfl | trivial⟩
                      case measure => simp [intOf]; omega
                    · rw [if_neg hz] at HLf
                      generalize WalPlays.leftOf (marks x) (HI : Int) i = LF at HLf
                      go_wp2_with fail
                      go_roundw
                      case rel => exact ⟨i + 1, by omega, by go_num, by rw [HLf.out], by first | rfl | trivial⟩
                      case measure => simp [intOf]; omega
                  · obtain rfl : i = len := by omega
                    have i3 : ¬ (i : Int) < (i : Int) := by omega
                    have hlf := HC.out.1
                    rw [HMl.out] at hlf
                    rw [hlf]
                    clear hlf
                    as_aux_lemma =>
                      have i4 : (m : Int) < (i : Int) := by omega
                      have i5 : (0 : Int) ≤ (m : Int) := by omega
                      have HMK : Hid (rs[m] ∈ qs) := HM.out _ (List.getElem_mem hm)
                      have hcr := HC.out.2.2.2.2.2
                      have HDo : Hid (∀ w', Below w33.heap.size w33 w' → w'.cell? ⟨gd, m, none⟩ = some (.pointer (some ⟨(rs[m]).1, 0, none⟩)) ∧ ∃ D, DL w' w.heap.size (rs[m]).1 D (crashW x keep).cur) := by
                        intro w' b'
                        have h := H33.out.below b'
                        have h1 := owns_at h.done m _ (WalkWalHas.ptrs_get (by simpa using hm))
                        simp only [List.getElem_map] at h1
                        obtain ⟨D, h2, _⟩ := h.docs _ HMK.out
                        rw [← hcr] at h2
                        exact ⟨h1, D, h2⟩
                      generalize (rs[m]).1 = G at HDo
                      have HFb : Hid ((crashW x keep).cur.size ≤ 10000 ∧ Lsms.total (crashW x keep).cur.lists ≤ 1000 ∧ (crashW x keep).cur.levels.length ≤ 900 ∧ (∀ l ∈ (crashW x keep).cur.levels, Tabs.pairsE l = 0 ∧ l.length ≤ 1000) ∧ (crashW x keep).cur.all.length ≤ 1000) := fine_bounds HC.out.2.1.curFine (by omega)
                      have HCL : Hid (∀ w', Below w33.heap.size w33 w' → Calls Tryz.prog 8 #[.pointer (some ⟨bw, 0, none⟩)] w' fun e w'' => ∃ b2 F2, e = .returned (.pointer (some ⟨b2, 0, none⟩)) ∧ WalkLs.Ls w'' w.heap.size b2 F2 (crashW x keep).cur ∧ Below w'.heap.size w' w'') := fun w' b' => WalkWalOff.lsm_off (H33.out.below b').off
                      have HCD : Hid (∀ w', Below w33.heap.size w33 w' → Calls Tryz.prog 16 #[.pointer (some ⟨G, 0, none⟩)] w' fun e w'' => ∃ v, e = .returned v ∧ w''.ownsRow w'.heap.size 31 3 v (crashW x keep).cur.all.length (cells (crashW x keep).cur.all) ∧ Below w'.heap.size w' w'') := fun w' b' => by
                        obtain ⟨_, D, h⟩ := HDo.out w' b'
                        exact WalkFlushRef.all_any h HFb.out.2.1 (by have := HFb.out.2.2.1; omega)
                      have HCU : Hid (∀ w', Below w33.heap.size w33 w' → Calls Tryz.prog 19 #[.pointer (some ⟨G, 0, none⟩)] w' fun e w'' => ∃ v, e = .returned v ∧ w''.ownsRow w'.heap.size 9 1 v (crashW x keep).cur.levels.length (Lists.strs (WalkTablesRef.tabs (crashW x keep).cur.levels)) ∧ Below w'.heap.size w' w'') := fun w' b' => by
                        obtain ⟨_, D, h⟩ := HDo.out w' b'
                        exact WalkTablesRef.tables_any h HFb.out.2.2.1 HFb.out.2.2.2.1
                      obtain ⟨X, HX⟩ : ∃ X, Hid ((crashW x keep).cur = X) := ⟨_, rfl⟩
                      rw [HX.out] at HCL HCD HCU HFb
                      clear hcr HMK
                      go_upto_region 62 with fail
                      have s0 := (HDo.out _ (Below.refl _ w33).drew).1
                      go_region_held (fun w' => w'.cell? ⟨gd, m, none⟩ = some (.pointer (some ⟨G, 0, none⟩))) (first | exact s0 | go_keep)
                        (first | (go_at_call 8; refine (HCL.out _ (Below.refl _ w33).drew).mono ?_; rintro e w41 ⟨b41, F41, rfl, ls41, bl41⟩; have HB41 : Hid (Below w33.heap.size w33 w41) := bt (Below.refl _ w33).drew bl41; have s0 := (HDo.out _ HB41.out).1; clear bl41) | (go_at_call 9; refine (WalkLs.all_any ls41 HFb.out.1).mono ?_; rintro e w42 ⟨v42, rfl, o42, bl42⟩; obtain ⟨a42, c42, rfl, r42⟩ := owns_wide o42; have HB42 : Hid (Below w33.heap.size w33 w42) := bt HB41.out bl42; have HR42 : Hid (Wide 3 w42 a42 X.all.length c42 (cells X.all)) := r42; have s0 := (HDo.out _ HB42.out).1; clear bl42 o42 r42) | (go_at_call 16; refine (HCD.out _ HB42.out).mono ?_; rintro e w43 ⟨v43, rfl, o43, bl43⟩; obtain ⟨a43, c43, rfl, r43⟩ := owns_wide o43; have HB43 : Hid (Below w33.heap.size w33 w43) := bt HB42.out bl43; have HS43 := WalkPairsSame.pairs_same X.all a42 a43 X.all.length c42 c43 w43 (HR42.out.below bl43) r43 (by have := HFb.out.2.2.2.2; omega); have s0 := (HDo.out _ HB43.out).1; clear bl43 o43 r43) | (go_at_call 15; refine HS43.mono ?_; rintro e w44 ⟨rfl, bl44⟩; have HB44 : Hid (Below w33.heap.size w33 w44) := bt HB43.out bl44; have s0 := (HDo.out _ HB44.out).1; clear bl44))
                      clear HCD HR42 ls41
                      as_aux_lemma =>
                        go_upto_region 63 with fail
                        have s0 := (HDo.out _ (bt HB44.out (Below.refl _ w44).drew)).1
                        go_region_held (fun w' => w'.cell? ⟨gd, m, none⟩ = some (.pointer (some ⟨G, 0, none⟩))) (first | exact s0 | go_keep)
                          (first | (go_at_call 8; refine (HCL.out _ (bt HB44.out (Below.refl _ w44).drew)).mono ?_; rintro e w45 ⟨b45, F45, rfl, ls45, bl45⟩; have HB45 : Hid (Below w33.heap.size w33 w45) := bt (bt HB44.out (Below.refl _ w44).drew) bl45; have s0 := (HDo.out _ HB45.out).1; clear bl45) | (go_at_call 18; refine (WalkLs.tables_any ls45 HFb.out.1).mono ?_; rintro e w46 ⟨v46, rfl, o46, bl46⟩; obtain ⟨a46, c46, rfl, r46, _⟩ := owns_row o46; have HB46 : Hid (Below w33.heap.size w33 w46) := bt HB45.out bl46; have HR46 : Hid (Row w46 a46 X.levels.length c46 (Lists.strs (WalkTablesRef.tabs X.levels))) := r46; have s0 := (HDo.out _ HB46.out).1; clear bl46 o46 r46) | (go_at_call 19; refine (HCU.out _ HB46.out).mono ?_; rintro e w47 ⟨v47, rfl, o47, bl47⟩; obtain ⟨a47, c47, rfl, r47, _⟩ := owns_row o47; have HB47 : Hid (Below w33.heap.size w33 w47) := bt HB46.out bl47; have HS47 := WalkTexts.texts_same (WalkTablesRef.tabs X.levels) a46 a47 X.levels.length c46 c47 w47 (HR46.out.below bl47) r47 (by have := HFb.out.2.2.1; omega); have s0 := (HDo.out _ HB47.out).1; clear bl47 o47 r47) | (go_at_call 17; refine HS47.mono ?_; rintro e w48 ⟨rfl, bl48⟩; have HB48 : Hid (Below w33.heap.size w33 w48) := bt HB47.out bl48; have s0 := (HDo.out _ HB48.out).1; clear bl48))
                        clear HCU HCL HR46 ls45 HDo HFb HX s0 HS47 HS43 HMc
                        as_aux_lemma =>
                          have HMb : Hid (∀ w', Below w33.heap.size w33 w' → w'.cell? ⟨gm, m, none⟩ = some (.int .i64 ((crashW x keep).bytes : Int))) := fun w' b' => owns_at (H33.out.below b').marks m _ (by have h := HC.out.2.2.2.1; simp only [ints, List.getElem?_map, h, Option.map_some])
                          have HCB : Hid (∀ w', Below w33.heap.size w33 w' → Calls Tryz.prog 10 #[.pointer (some ⟨bw, 0, none⟩)] w' fun e w'' => e = .returned (.int .i64 ((crashW x keep).bytes : Nat)) ∧ Below w'.heap.size w' w'') := fun w' b' => WalkWalOff.bytes_off (H33.out.below b').off
                          have HCS : Hid (∀ w', Below w33.heap.size w33 w' → Calls Tryz.prog 11 #[.pointer (some ⟨bw, 0, none⟩)] w' fun e w'' => e = .returned (.int .i64 ((crashW x keep).bytes : Nat)) ∧ Below w'.heap.size w' w'') := fun w' b' => by
                            rw [← HC.out.2.2.2.2.1]
                            exact WalkWalOff.safe_off (H33.out.below b').off
                          obtain ⟨MB, HMB⟩ : ∃ MB : Int, Hid (((crashW x keep).bytes : Int) = MB) := ⟨_, rfl⟩
                          rw [HMB.out] at HMb HCB HCS
                          have q1 : (MB != MB) = false := by simp
                          go_upto_region 64 with fail
                          have s0 := HMb.out _ (bt HB48.out (Below.refl _ w48).drew)
                          go_region_held (fun w' => w'.cell? ⟨gm, m, none⟩ = some (.int .i64 MB)) (first | exact s0 | go_keep)
                            (first | (go_at_call 10; refine (HCB.out _ (bt HB48.out (Below.refl _ w48).drew)).mono ?_; rintro e w49 ⟨rfl, bl49⟩; have HB49 : Hid (Below w33.heap.size w33 w49) := bt (bt HB48.out (Below.refl _ w48).drew) bl49; have s0 := HMb.out _ HB49.out; clear bl49) | (go_at_call 11; refine (HCS.out _ HB49.out).mono ?_; rintro e w50 ⟨rfl, bl50⟩; have HB50 : Hid (Below w33.heap.size w33 w50) := bt HB49.out bl50; have s0 := HMb.out _ HB50.out; clear bl50))
                          as_aux_lemma =>
                            have H50 : Hid (Has w w50 bw (crashW x keep) U qs ((rs.take (m + 1)).map (·.1)) (marks (crashW x keep)) (.slice (some ⟨gd, 0, none⟩) (m + 1) cd) (.slice (some ⟨gm, 0, none⟩) (m + 1) cm)) := by
                              have h := H33.out.below HB50.out
                              have e1 : (rs.map (·.1)).length = i := by rw [List.length_map]; exact HLen.out.symm
                              have e2 := HMl.out
                              have h2 : Has w w50 bw (crashW x keep) U qs (rs.map (·.1)) (marks x) (.slice (some ⟨gd, 0, none⟩) (rs.map (·.1)).length cd) (.slice (some ⟨gm, 0, none⟩) (marks x).length cm) := by rw [e1, e2]; exact h
                              have h3 := h2.cut (m + 1) (by omega) (by omega)
                              rw [HC.out.2.2.1, List.map_take]
                              exact h3
                            have HLn : Hid (m + 1 = (rs.take (m + 1)).length) := by show _ = _; rw [List.length_take]; omega
                            have HMt : Hid (∀ r ∈ rs.take (m + 1), r ∈ qs) := fun r hr => HM.out r (List.mem_of_mem_take hr)
                            have HPt : Hid (Play L (crashW x keep) (rs.take (m + 1)) c) := HC.out.2.1
                            have i6 : (m : Int) + 1 ≤ (cd : Int) := by omega
                            have i7 : (m : Int) + 1 ≤ (cm : Int) := by omega
                            have i8 : (0 : Int) ≤ (m : Int) + 1 := by omega
                            clear HCB HCS HMb HMB HB48 HB49 HB50 HB44 s0 q1 H33 HC HMl HHI
                            go_wp2_with fail
                            go_roundw
                            case rel => exact ⟨rd + 1, c, crashW x keep, rs.take (m + 1), qs, U, m + 1, gd, cd, gm, cm, by omega, by go_num, rfl, by omega, hcn, HLn, by go_num, by go_num, by omega, by omega, H50, HPt, HMt⟩
                            case measure => simp [intOf]; omega

end Go.Proofs.YtofaegcljcpceagGreatDoor.WalkWalKeeps
