/-
  The law RunAnswers: the program's answers are the document's, line by line.
-/
import Derived.Test.YtfpkngpgmllhnaaGreatDoorRuEnd
import Derived.Test.YtfpkngpgmllhnaaGreatDoorRunRef
import Derived.Test.YtfpkngpgmllhnaaGreatDoorRefNum
set_option maxRecDepth 100000
namespace Go.Proofs.YtfpkngpgmllhnaaGreatDoor.WalkRunAnswers
open Go.RowKit
open Keeps (Kept owns_row)
open Lists (bt strs Row)
open Decimals (words)
open WalkHdLib (Tabs)
open WalkSeNum (Syn)
open WalkTold (Laid)
open Nums (str)
open Runs (runL runD line)
open RunDoc (Dk)

/-- after K lines -/
def At (w2 : World) (b : Nat) (LL : List (List UInt8)) (K : Nat) (wr : World) : Prop := ∃ F, Dk wr w2.heap.size b F (runD Runs.fresh (LL.take K)) ∧ Below w2.heap.size w2 wr
theorem take_more {LL : List (List UInt8)} {K : Nat} {x : List UInt8} (hx : LL[K]? = some x) : LL.take (K + 1) = LL.take K ++ [x] := by
  obtain ⟨h, rfl⟩ := List.getElem?_eq_some_iff.1 hx
  exact List.take_succ_eq_append_getElem h
theorem at_next {w2 wr w' : World} {b : Nat} {LL : List (List UInt8)} {K : Nat} {x : List UInt8} {F : Nat → Prop} (hx : LL[K]? = some x) (h1 : Dk wr w2.heap.size b F (runD Runs.fresh (LL.take K))) (h2 : Below w2.heap.size w2 wr) (h : WalkStepRef.Did wr w' w2.heap.size b F (line (runD Runs.fresh (LL.take K)) x).2) : At w2 b LL (K + 1) w' := by
  obtain ⟨⟨F', g1, _⟩, g3⟩ := h
  refine ⟨F', ?_, h2.trans (g3.below (fun k hk => (h1.foot k hk).1) h2.size)⟩
  rw [take_more hx, RunLens.runD_snoc]
  exact g1
/-- a desk, new -/
theorem desk_new (w : World) : Dk ((w.alloc (.cells #[.int .i64 7, .slice none 0 0, .int .i64 0, .int .i64 0, .int .i64 0, .int .i64 0, .int .i64 0, .int .i64 0, .int .i64 0, .int .i64 0, .slice none 0 0] 31)).alloc (.cells #[.slice none 0 0, .pointer (some ⟨w.heap.size, 0, none⟩)] 33)) w.heap.size (w.heap.size + 1) (fun k => k = w.heap.size + 1 ∨ (Value.slice none 0 0).ownBlock = some k ∨ MirDoc.foot w.heap.size (.slice none 0 0) (.slice none 0 0) k) Runs.fresh := by
  have hl : MirDoc.Lay (w.alloc (.cells #[.int .i64 7, .slice none 0 0, .int .i64 0, .int .i64 0, .int .i64 0, .int .i64 0, .int .i64 0, .int .i64 0, .int .i64 0, .int .i64 0, .slice none 0 0] 31)) w.heap.size w.heap.size 7 Mirrors.start (.slice none 0 0) (.slice none 0 0) := by
    refine ⟨World.rowIs_alloc _ _ _ _ ?_, World.ownsRow_nil _ _ _ _, World.ownsRow_nil _ _ _ _, Nat.le_refl _, by simp [Value.ownBlock], by simp [Value.ownBlock], fun k q => by simp [Value.ownBlock] at q⟩
    intro j hj
    match j, hj with
    | 0, _ | 1, _ | 2, _ | 3, _ | 4, _ | 5, _ | 6, _ | 7, _ | 8, _ | 9, _ | 10, _ => rfl
    | j + 11, h => simp at h; omega
  have b2 : Below (w.alloc (.cells #[.int .i64 7, .slice none 0 0, .int .i64 0, .int .i64 0, .int .i64 0, .int .i64 0, .int .i64 0, .int .i64 0, .int .i64 0, .int .i64 0, .slice none 0 0] 31)).heap.size (w.alloc (.cells #[.int .i64 7, .slice none 0 0, .int .i64 0, .int .i64 0, .int .i64 0, .int .i64 0, .int .i64 0, .int .i64 0, .int .i64 0, .int .i64 0, .slice none 0 0] 31)) ((w.alloc (.cells #[.int .i64 7, .slice none 0 0, .int .i64 0, .int .i64 0, .int .i64 0, .int .i64 0, .int .i64 0, .int .i64 0, .int .i64 0, .int .i64 0, .slice none 0 0] 31)).alloc (.cells #[.slice none 0 0, .pointer (some ⟨w.heap.size, 0, none⟩)] 33)) := (Below.refl _ _).alloc (Nat.le_refl _) _
  refine ⟨⟨w.heap.size, .slice none 0 0, .slice none 0 0, .slice none 0 0, ?_, World.ownsRow_nil _ _ _ _, hl.below b2, by simp [Value.ownBlock], fun k hk => ⟨?_, by simp [Value.ownBlock]⟩, fun _ => Iff.rfl⟩, by omega⟩
  · have := World.rowIs_alloc (w.alloc (.cells #[.int .i64 7, .slice none 0 0, .int .i64 0, .int .i64 0, .int .i64 0, .int .i64 0, .int .i64 0, .int .i64 0, .int .i64 0, .int .i64 0, .slice none 0 0] 31)) #[.slice none 0 0, .pointer (some ⟨w.heap.size, 0, none⟩)] 33 (RunDoc.two (.slice none 0 0) (.pointer (some ⟨w.heap.size, 0, none⟩))) (by intro i hi; match i, hi with | 0, _ => rfl | 1, _ => rfl)
    rw [World.size_alloc] at this
    exact this
  · have := (hl.foot_lt k hk).2
    simp at this
    omega

set_option maxHeartbeats 16000000 in
theorem walk (t : ByteArray) (_ : t.size ≤ 140737488351232) (w : World) (hL : Laid w) (hK : Tabs w) (hY : Syn w) :
    Calls Tryz.prog 3 #[.string t] w fun e w' => e = .returned (.bool true) ∧ Below w.heap.size w w' := by
  have hsz : t.data.toList.length = t.size := Array.length_toList
  have cR := WalkRuRun.run_any t w hK hY hL
  clear hL hK hY
  by_cases h3 : 3000 < t.size
  · have i1 : (t.size : Int) > 3000 := by omega
    have i2 : (3000 : Int) < (t.size : Int) := i1
    have e3 : str (Runs.run t.data.toList) = ⟨#[116, 111, 111, 32, 108, 111, 110, 103, 10]⟩ := by
      rw [show Runs.run t.data.toList = Runs.longT from if_pos (by omega)]
      rfl
    rw [e3] at cR
    clear h3 hsz e3
    go_enter Tryz.func3, Tryz.ntmps3
    go_wp2_with fail
    refine cR.mono ?_
    rintro e w1 ⟨rfl, b1⟩
    have HB1 : Hid (Below w.heap.size w w1) := b1
    clear cR b1
    go_wp2_with fail
    go_ret
    exact ⟨rfl, HB1.out⟩
  · have i1 : ¬ (t.size : Int) > 3000 := by omega
    have i2 : ¬ (3000 : Int) < (t.size : Int) := i1
    have ht3 : t.size ≤ 3000 := by omega
    rw [show Runs.run t.data.toList = runL Runs.fresh (Runs.lines t.data.toList) from if_neg (by omega)] at cR
    go_enter Tryz.func3, Tryz.ntmps3
    go_wp2_with fail
    refine cR.mono ?_
    rintro e w1 ⟨rfl, b1⟩
    have HB1 : Hid (Below w.heap.size w w1) := b1
    have cC := WalkNumberRef.cut_any t 10 w1 (by omega)
    have hwl := WalkAnswerRef.words_len 10 t.data.toList
    have hwn := Decimals.words_ne 10 t.data.toList
    have HTr : Hid (Runs.lines t.data.toList = Runs.trim (words 10 t.data.toList)) := rfl
    rw [hsz] at hwl
    generalize words 10 t.data.toList = L at cC hwl hwn HTr
    clear cR b1 h3
    go_wp2_with fail
    refine cC.mono ?_
    rintro e w2 ⟨v2, rfl, o2, b2⟩
    obtain ⟨a2, c2, rfl, hr2, _⟩ := owns_row o2
    have hpos : 0 < L.length := List.length_pos_iff.2 hwn
    obtain ⟨ga, oa, rfl, _⟩ := hr2.2.2 hpos
    have hcap := hr2.2.1
    have HB2 : Hid (Below w.heap.size w w2) := bt HB1.out b2
    obtain ⟨M, hM⟩ : ∃ M, L.length = M + 1 := ⟨L.length - 1, by omega⟩
    obtain ⟨x, hx⟩ : ∃ x, L[M]? = some x := ⟨_, List.getElem?_eq_getElem (by omega)⟩
    have hgl : L.getLast? = some x := by rw [List.getLast?_eq_getElem?, hM]; exact hx
    have q0 : w2.cell? ⟨ga, oa + M, none⟩ = some (.string (str x)) := hr2.at M _ (by unfold strs; rw [List.getElem?_map, List.getElem?_map, hx]; rfl)
    have HR2 : Hid (Row w2 (some ⟨ga, oa, none⟩) L.length c2 (strs (L.map str))) := hr2
    clear cC b2 o2 hr2 HB1
    obtain ⟨N, hN⟩ : ∃ N, L.length = N := ⟨_, rfl⟩
    have HN : Hid (L.length = N) := hN
    rw [hN] at hM hcap hwl ⊢
    have wm : IntKind.i64.wrap ((N : Int) - 1) = (M : Int) := by rw [IntKind.wrap_i64]; omega
    have m0 : (0 : Int) ≤ (M : Int) := by omega
    have m1 : (M : Int) < (N : Int) := by omega
    have m2 : (M : Int) ≤ (c2 : Int) := by omega
    have hx2 : (str x).data.toList = x := rfl
    by_cases hx0 : x = []
    · have qe : ((str x).toList == []) = true := WalkLineRef.beq_yes (by rw [hx2, hx0])
      have HLi : ∃ LL, Runs.lines t.data.toList = LL ∧ LL = L.take M := ⟨_, rfl, by rw [HTr.out]; unfold Runs.trim; rw [hgl, if_pos (by rw [hx0]), List.dropLast_eq_take, HN.out, hM]; rfl⟩
      obtain ⟨LL, hLi, hLL⟩ := HLi
      have HLi : Hid (Runs.lines t.data.toList = LL) := hLi
      have HLn : Hid (LL.length = M) := by
        show _ = _
        rw [hLL, List.length_take, HN.out]
        omega
      have HSm : Hid (∀ x ∈ LL, x.length ≤ 3000) := fun x hx => by
        have := hwl.2 x (by rw [hLL] at hx; exact List.mem_of_mem_take hx)
        omega
      have HRow : Hid (Row w2 (some ⟨ga, oa, none⟩) M c2 (strs (LL.map str))) := by
        show Row _ _ _ _ _
        have := HR2.out.take M (by have := HN.out; omega)
        rw [hLL, List.map_take, Lists.strs_take]
        exact this
      have hMl : M ≤ 3001 := by omega
      clear hLi hLL hgl hx hx2 hx0 hwl hwn HTr HR2 hN HN hpos
      generalize str x = sx at q0 qe
      go_upto_region 7 with fail
      clear q0 qe wm m1
      · go_upto_region 9 with fail
        have hs3 : ((w2.alloc (.cells #[.int .i64 7, .slice none 0 0, .int .i64 0, .int .i64 0, .int .i64 0, .int .i64 0, .int .i64 0, .int .i64 0, .int .i64 0, .int .i64 0, .slice none 0 0] 31)).alloc (.cells #[.slice none 0 0, .pointer (some ⟨w2.heap.size, 0, none⟩)] 33)).heap.size = w2.heap.size + 2 := by simp
        have hD0 := desk_new w2
        have b23 : Below w2.heap.size w2 ((w2.alloc (.cells #[.int .i64 7, .slice none 0 0, .int .i64 0, .int .i64 0, .int .i64 0, .int .i64 0, .int .i64 0, .int .i64 0, .int .i64 0, .int .i64 0, .slice none 0 0] 31)).alloc (.cells #[.slice none 0 0, .pointer (some ⟨w2.heap.size, 0, none⟩)] 33)) := ((Below.refl _ _).alloc (Nat.le_refl _) _).alloc (by simp) _
        generalize (w2.alloc (.cells #[.int .i64 7, .slice none 0 0, .int .i64 0, .int .i64 0, .int .i64 0, .int .i64 0, .int .i64 0, .int .i64 0, .int .i64 0, .int .i64 0, .slice none 0 0] 31)).alloc (.cells #[.slice none 0 0, .pointer (some ⟨w2.heap.size, 0, none⟩)] 33) = w3 at hs3 hD0 b23 ⊢
        have HStart : Hid (At w2 (w2.heap.size + 1) LL 0 w3) := ⟨_, hD0, b23⟩
        clear hD0 b23 hs3
        go_wp2_with fail
        go_loopw [6, 7, 8] (fun s i _ wr => ∃ K : Nat, K ≤ M ∧ i = .int .i64 (K : Int) ∧ s = .string (str (runL Runs.fresh (LL.take K))) ∧ Hid (At w2 (w2.heap.size + 1) LL K wr)) (fun _ i _ _ => M - (intOf i).toNat)
        case atStart => exact ⟨0, Nat.zero_le _, rfl, rfl, HStart⟩
        case round =>
          obtain ⟨K, hK, rfl, rfl, hA⟩ := hrel
          clear HStart
          by_cases hlt : K < M
          · have i5 : (K : Int) < (M : Int) := by omega
            have i6 : (0 : Int) ≤ (K : Int) := by omega
            have wk : IntKind.i64.wrap ((K : Int) + 1) = (K : Int) + 1 := by rw [IntKind.wrap_i64]; omega
            obtain ⟨x, hx, hx3⟩ : ∃ x, LL[K]? = some x ∧ x.length ≤ 3000 := by
              have e := List.getElem?_eq_getElem (show K < LL.length by have := HLn.out; omega)
              exact ⟨_, e, HSm.out _ (List.getElem_mem _)⟩
            obtain ⟨Fd, hdk, hbl⟩ := hA.out
            have q0 : wr.cell? ⟨ga, oa + K, none⟩ = some (.string (str x)) := (HRow.out.below hbl).at K _ (by unfold strs; rw [List.getElem?_map, List.getElem?_map, hx]; rfl)
            have hf := RunLens.runD_fine (LL.take K) Runs.fresh_fine
            have cL := WalkLineRef.line_any hdk hf hbl.size (str x) (by rw [Nums.str_size]; omega)
            rw [show (str x).data.toList = x from rfl] at cL
            have HNx : Hid (∀ w', WalkStepRef.Did wr w' w2.heap.size (w2.heap.size + 1) Fd (line (runD Runs.fresh (LL.take K)) x).2 → At w2 (w2.heap.size + 1) LL (K + 1) w') := fun w' hd => at_next hx hdk hbl hd
            have hr1 := RunLens.runL_len (LL.take K) Runs.fresh_fine
            have hr2 := RunLens.line_len hf x
            have hr3 : (LL.take K).length ≤ 3001 := by rw [List.length_take]; have := HLn.out; omega
            have HV1 : Hid (str (runL Runs.fresh (LL.take (K + 1))) = str (runL Runs.fresh (LL.take K)) ++ str (line (runD Runs.fresh (LL.take K)) x).1 ++ ⟨#[10]⟩) := by
              show _ = _
              rw [take_more hx, RunLens.runL_snoc, ← Nums.str_append, ← Nums.str_append]
              rfl
            have hsa : (str (runL Runs.fresh (LL.take K))).size ≤ 6001 * 3001 := by rw [Nums.str_size]; omega
            have hsb : (str (line (runD Runs.fresh (LL.take K)) x).1).size ≤ 6000 := by rw [Nums.str_size]; omega
            clear hdk hbl hf hr1 hr2 hr3 hx hx3 hA
            generalize str (line (runD Runs.fresh (LL.take K)) x).1 = SB at cL HV1 hsb
            generalize str (runL Runs.fresh (LL.take K)) = SA at HV1 hsa ⊢
            have ea := fun w' : World => run_string_add_sum (P := Tryz.prog) (w := w') SA SB (by omega)
            have eb := fun w' : World => run_string_add_sum (P := Tryz.prog) (w := w') (SA ++ SB) ⟨#[10]⟩ (by rw [ByteArray.size_append]; show _ + 1 ≤ _; omega)
            generalize line (runD Runs.fresh (LL.take K)) x = LX at cL HNx
            clear hsa hsb
            go_wp2_with fail
            refine cL.mono ?_
            rintro e w5 ⟨rfl, hd5⟩
            have HA5 : Hid (At w2 (w2.heap.size + 1) LL (K + 1) w5) := HNx.out w5 hd5
            clear cL hd5 HNx q0
            go_wp2_with fail
            go_roundw
            case rel => exact ⟨K + 1, by omega, by go_num, by rw [HV1.out], HA5⟩
            case measure => simp [intOf]; omega
          · have i5 : ¬ (K : Int) < (M : Int) := by omega
            obtain rfl : M = K := by omega
            have HV2 : Hid (runL Runs.fresh (LL.take M) = runL Runs.fresh (Runs.lines t.data.toList)) := by
              show _ = _
              rw [HLi.out, ← HLn.out, List.take_length]
            rw [HV2.out]
            generalize str (runL Runs.fresh (Runs.lines t.data.toList)) = SR
            have eq1 : (SR.toList == SR.toList) = true := beq_self_eq_true _
            obtain ⟨_, _, hbl⟩ := hA.out
            have HB : Hid (Below w.heap.size w wr) := HB2.out.trans (hbl.mono HB2.out.size)
            clear hA hbl
            go_wp2_with fail
            go_ret
            exact ⟨rfl, HB.out⟩
    · have qe : ((str x).toList == []) = false := WalkLineRef.beq_no (by rw [hx2]; exact hx0)
      have HLi : Hid (Runs.lines t.data.toList = L) := by
        show _ = _
        rw [HTr.out]
        unfold Runs.trim
        rw [hgl, if_neg (by intro e; injection e with e; exact hx0 e)]
      have HLn : Hid (L.length = N) := HN.out
      have HSm : Hid (∀ x ∈ L, x.length ≤ 3000) := fun x hx => by have := hwl.2 x hx; omega
      have HRow : Hid (Row w2 (some ⟨ga, oa, none⟩) N c2 (strs (L.map str))) := by
        show Row _ _ _ _ _
        have := HR2.out
        rw [HN.out] at this
        exact this
      have hMl : N ≤ 3001 := by omega
      clear hgl hx hx2 hx0 hwl hwn HTr HR2 hN HN hpos
      generalize str x = sx at q0 qe
      go_upto_region 7 with fail
      clear q0 qe wm m0 m1 m2
      · go_upto_region 9 with fail
        have hs3 : ((w2.alloc (.cells #[.int .i64 7, .slice none 0 0, .int .i64 0, .int .i64 0, .int .i64 0, .int .i64 0, .int .i64 0, .int .i64 0, .int .i64 0, .int .i64 0, .slice none 0 0] 31)).alloc (.cells #[.slice none 0 0, .pointer (some ⟨w2.heap.size, 0, none⟩)] 33)).heap.size = w2.heap.size + 2 := by simp
        have hD0 := desk_new w2
        have b23 : Below w2.heap.size w2 ((w2.alloc (.cells #[.int .i64 7, .slice none 0 0, .int .i64 0, .int .i64 0, .int .i64 0, .int .i64 0, .int .i64 0, .int .i64 0, .int .i64 0, .int .i64 0, .slice none 0 0] 31)).alloc (.cells #[.slice none 0 0, .pointer (some ⟨w2.heap.size, 0, none⟩)] 33)) := ((Below.refl _ _).alloc (Nat.le_refl _) _).alloc (by simp) _
        generalize (w2.alloc (.cells #[.int .i64 7, .slice none 0 0, .int .i64 0, .int .i64 0, .int .i64 0, .int .i64 0, .int .i64 0, .int .i64 0, .int .i64 0, .int .i64 0, .slice none 0 0] 31)).alloc (.cells #[.slice none 0 0, .pointer (some ⟨w2.heap.size, 0, none⟩)] 33) = w3 at hs3 hD0 b23 ⊢
        have HStart : Hid (At w2 (w2.heap.size + 1) L 0 w3) := ⟨_, hD0, b23⟩
        clear hD0 b23 hs3
        go_wp2_with fail
        go_loopw [6, 7, 8] (fun s i _ wr => ∃ K : Nat, K ≤ N ∧ i = .int .i64 (K : Int) ∧ s = .string (str (runL Runs.fresh (L.take K))) ∧ Hid (At w2 (w2.heap.size + 1) L K wr)) (fun _ i _ _ => N - (intOf i).toNat)
        case atStart => exact ⟨0, Nat.zero_le _, rfl, rfl, HStart⟩
        case round =>
          obtain ⟨K, hK, rfl, rfl, hA⟩ := hrel
          clear HStart
          by_cases hlt : K < N
          · have i5 : (K : Int) < (N : Int) := by omega
            have i6 : (0 : Int) ≤ (K : Int) := by omega
            have wk : IntKind.i64.wrap ((K : Int) + 1) = (K : Int) + 1 := by rw [IntKind.wrap_i64]; omega
            obtain ⟨x, hx, hx3⟩ : ∃ x, L[K]? = some x ∧ x.length ≤ 3000 := by
              have e := List.getElem?_eq_getElem (show K < L.length by have := HLn.out; omega)
              exact ⟨_, e, HSm.out _ (List.getElem_mem _)⟩
            obtain ⟨Fd, hdk, hbl⟩ := hA.out
            have q0 : wr.cell? ⟨ga, oa + K, none⟩ = some (.string (str x)) := (HRow.out.below hbl).at K _ (by unfold strs; rw [List.getElem?_map, List.getElem?_map, hx]; rfl)
            have hf := RunLens.runD_fine (L.take K) Runs.fresh_fine
            have cL := WalkLineRef.line_any hdk hf hbl.size (str x) (by rw [Nums.str_size]; omega)
            rw [show (str x).data.toList = x from rfl] at cL
            have HNx : Hid (∀ w', WalkStepRef.Did wr w' w2.heap.size (w2.heap.size + 1) Fd (line (runD Runs.fresh (L.take K)) x).2 → At w2 (w2.heap.size + 1) L (K + 1) w') := fun w' hd => at_next hx hdk hbl hd
            have hr1 := RunLens.runL_len (L.take K) Runs.fresh_fine
            have hr2 := RunLens.line_len hf x
            have hr3 : (L.take K).length ≤ 3001 := by rw [List.length_take]; have := HLn.out; omega
            have HV1 : Hid (str (runL Runs.fresh (L.take (K + 1))) = str (runL Runs.fresh (L.take K)) ++ str (line (runD Runs.fresh (L.take K)) x).1 ++ ⟨#[10]⟩) := by
              show _ = _
              rw [take_more hx, RunLens.runL_snoc, ← Nums.str_append, ← Nums.str_append]
              rfl
            have hsa : (str (runL Runs.fresh (L.take K))).size ≤ 6001 * 3001 := by rw [Nums.str_size]; omega
            have hsb : (str (line (runD Runs.fresh (L.take K)) x).1).size ≤ 6000 := by rw [Nums.str_size]; omega
            clear hdk hbl hf hr1 hr2 hr3 hx hx3 hA
            generalize str (line (runD Runs.fresh (L.take K)) x).1 = SB at cL HV1 hsb
            generalize str (runL Runs.fresh (L.take K)) = SA at HV1 hsa ⊢
            have ea := fun w' : World => run_string_add_sum (P := Tryz.prog) (w := w') SA SB (by omega)
            have eb := fun w' : World => run_string_add_sum (P := Tryz.prog) (w := w') (SA ++ SB) ⟨#[10]⟩ (by rw [ByteArray.size_append]; show _ + 1 ≤ _; omega)
            generalize line (runD Runs.fresh (L.take K)) x = LX at cL HNx
            clear hsa hsb
            go_wp2_with fail
            refine cL.mono ?_
            rintro e w5 ⟨rfl, hd5⟩
            have HA5 : Hid (At w2 (w2.heap.size + 1) L (K + 1) w5) := HNx.out w5 hd5
            clear cL hd5 HNx q0
            go_wp2_with fail
            go_roundw
            case rel => exact ⟨K + 1, by omega, by go_num, by rw [HV1.out], HA5⟩
            case measure => simp [intOf]; omega
          · have i5 : ¬ (K : Int) < (N : Int) := by omega
            obtain rfl : N = K := by omega
            have HV2 : Hid (runL Runs.fresh (L.take N) = runL Runs.fresh (Runs.lines t.data.toList)) := by
              show _ = _
              rw [HLi.out, ← HLn.out, List.take_length]
            rw [HV2.out]
            generalize str (runL Runs.fresh (Runs.lines t.data.toList)) = SR
            have eq1 : (SR.toList == SR.toList) = true := beq_self_eq_true _
            obtain ⟨_, _, hbl⟩ := hA.out
            have HB : Hid (Below w.heap.size w wr) := HB2.out.trans (hbl.mono HB2.out.size)
            clear hA hbl
            go_wp2_with fail
            go_ret
            exact ⟨rfl, HB.out⟩

end Go.Proofs.YtfpkngpgmllhnaaGreatDoor.WalkRunAnswers
