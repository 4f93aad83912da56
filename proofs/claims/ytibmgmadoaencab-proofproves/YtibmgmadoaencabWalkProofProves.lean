/-
  The walk of ProofProves: each leaf of a tree is proved by its proof; another leaf, or with one sum of it changed, is not, or two texts that are not the same have one sum.
-/
import Derived.Test.YtibmgmadoaencabWalkProofCheck
import Derived.Test.YtibmgmadoaencabWalkMake
import Derived.Test.YtibmgmadoaencabWalkTurn
import Derived.Deep.DeepMust
import Derived.Deep.CutBlock
namespace Go.Proofs.Ytibmgmadoaencab.WalkProofProves
open Go.RowKit
open Lists (Row ints bt)
open Keeps (Kept owns_kept owns_row owns_open owns_set)
open WalkCheck (errv errv0 errv_pos)
open WalkSteps (inside)
open WalkMake (makeE makeL make_of make_any info3)
open WalkProofCheck (checkE upE)
open Ways (turns steps way upL up1 text1 meetsL)

theorem fact_ok : makeE [5, 6] 0 2 = 0 := by decide +kernel
theorem fact_is : makeL [5, 6] 0 2 = [6] := by decide +kernel

theorem leafs_ok {l : List Int} {n : Nat} (hln : l.length = n) (h : Trees.leafsE l = 0) : n ≤ 200 ∧ ∀ x ∈ l, Nums.valid x = true := by
  unfold Trees.leafsE at h
  rw [hln] at h
  split at h
  · cases h
  · split at h
    · exact ⟨by omega, Trees.allOk_mem (by assumption)⟩
    · cases h
theorem all_ok {l : List Int} (h : ∀ x ∈ l, Nums.valid x = true) : Trees.allOk l = true := List.all_eq_true.2 h
theorem leafs_zero {l : List Int} (hn : l.length ≤ 200) (h : ∀ x ∈ l, Nums.valid x = true) : Trees.leafsE l = 0 := by
  unfold Trees.leafsE
  rw [if_neg (by omega), if_pos (all_ok h)]

theorem check_is {R s I N : Int} {p : List Int} {i m : Nat} (hI : I = i) (hN : N = m) (hi : i < m) (hm : m ≤ 200) (vR : Nums.valid R = true) (vs : Nums.valid s = true) (vp : ∀ x ∈ p, Nums.valid x = true) (hl : p.length = steps i m) : checkE R N I s p = upE R m i s p := by
  unfold checkE
  rw [if_pos (by rw [hI, hN]; exact WalkSteps.inside_yes hi (by omega)), if_pos ⟨vR, vs, all_ok vp⟩, hI, hN, Int.toNat_natCast, Int.toNat_natCast, if_pos hl]

theorem getD_valid {p : List Int} {k : Nat} (hv : ∀ x ∈ p, Nums.valid x = true) (h : k < p.length) : Nums.valid (p.getD k 0) = true := hv _ (by rw [List.getD_eq_getElem?_getD, List.getElem?_eq_getElem h]; exact List.getElem_mem _)

theorem row_pair (w : World) : Row (w.alloc (.cells #[.int .i64 5, .int .i64 6] 3)) (some ⟨w.heap.size, 0, none⟩) 2 2 (ints [5, 6]) := by
  refine ⟨rfl, Nat.le_refl _, fun _ => ⟨w.heap.size, 0, rfl, fun j u hj => ?_⟩⟩
  match j, hj with
  | 0, hj => simp [ints] at hj; subst hj; simp
  | 1, hj => simp [ints] at hj; subst hj; simp

set_option maxHeartbeats 16000000 in
set_option maxRecDepth 100000 in
theorem walk (a : Option Addr) (n cap : Nat) (l : List Int) (_hz : l.length * 8 ≤ 140737488351232) (_ : ∀ x ∈ l, (Lit.int .i64 x).wf = true)
    (I : Int) (_ : (Lit.int .i64 I).wf = true) (N : Int) (_ : (Lit.int .i64 N).wf = true) (AT : Int) (_ : (Lit.int .i64 AT).wf = true) (TO : Int) (_ : (Lit.int .i64 TO).wf = true) (OT : Int) (_ : (Lit.int .i64 OT).wf = true)
    (w : World) (hr : Row w a n cap (ints l)) :
    Calls Try.prog 4 #[.slice a n cap, .int .i64 I, .int .i64 N, .int .i64 AT, .int .i64 TO, .int .i64 OT] w fun e w' => e = .returned (.bool true) ∧ Below w.heap.size w w' := by
  have hln : l.length = n := by rw [← hr.1, Lists.ints_length]
  have HR : Hid (Row w a n cap (ints l)) := hr
  have c0 := make_any [5, 6] _ 2 2 0 2 _ (row_pair w)
  rw [fact_ok, fact_is, errv0] at c0
  have hsz : (w.alloc (.cells #[.int .i64 5, .int .i64 6] 3)).heap.size = w.heap.size + 1 := by simp
  have HB0 : Hid (Below w.heap.size w (w.alloc (.cells #[.int .i64 5, .int .i64 6] 3))) := (Below.refl _ w).alloc (Nat.le_refl _) _
  clear hr _hz
  go_enter Try.func4, Try.ntmps4
  go_wp2_with fail
  refine c0.mono ?_
  rintro e w1 ⟨v1, rfl, o1, b1⟩
  obtain ⟨g1, cp1, rfl, z1, z2, z3, z4, z5, hc1, z6⟩ := owns_open o1 (by decide)
  have k1 : w1.cell? ⟨g1, 0, none⟩ = some (.int .i64 6) := hc1 0 _ rfl
  have HB1 : Hid (Below w.heap.size w w1) := bt HB0.out b1
  have hlen : ([6] : List Int).length = 1 := rfl
  rw [hlen]
  clear c0 o1 b1 hc1 HB0 hsz hlen z1 z2 z3 z4 z5 z6
  go_wp2_with fail
  refine (make_any l a n cap I N _ (HR.out.below HB1.out)).mono ?_
  rintro e w2 ⟨v2, rfl, o2, b2⟩
  by_cases hF : makeE l I N = 0
  case neg =>
    rw [errv_pos _ hF]
    obtain ⟨a2, c2, rfl, z1, z2⟩ := owns_row o2
    have HB2 : Hid (Below w.heap.size w w2) := bt HB1.out b2
    generalize makeE l I N = F
    generalize (makeL l I N).length = k
    clear o2 b2 z1 z2 hF HB1 k1
    go_wp2_with fail
    go_ret
    exact ⟨rfl, HB2.out⟩
  -- what is there is proved
  obtain ⟨q1, q2⟩ := make_of hF
  rw [hF, errv0]
  rw [hln] at q2
  obtain ⟨n2, hv⟩ := leafs_ok hln q1
  obtain ⟨i, m, hI, hN, hi, hmn⟩ := WalkSteps.inside_of q2
  have hm : m ≤ n := by omega
  have hm2 : m ≤ 200 := by omega
  have htk : (l.take m).length = m := by rw [List.length_take]; omega
  have hvt : ∀ x ∈ l.take m, Nums.valid x = true := fun x hx => hv x (List.mem_of_mem_take hx)
  have eP : makeL l I N = way (l.take m) i := by unfold makeL; rw [if_pos hF, hI, hN, Int.toNat_natCast, Int.toNat_natCast]
  have lP : (way (l.take m) i).length = steps i m := by rw [Ways.way_len, htk]
  have sl := Ways.steps_le _ i m (Nat.le_refl _)
  have vP := Ways.way_valid _ (l.take m) i (Nat.le_refl _) hvt
  have eU : upL (l.getD i 0) (way (l.take m) i) (turns i m) = Trees.root (l.take m) := by
    have h := Ways.up_way (l.take m) i (by omega)
    rw [htk, show (l.take m).getD i 0 = l.getD i 0 by simp [List.getD_eq_getElem?_getD, hi]] at h
    exact h
  have vR := Trees.root_valid (l.take m) hvt
  have vX : Nums.valid (l.getD i 0) = true := getD_valid hv (by omega)
  obtain ⟨bl, ofl, rfl, hcl⟩ := HR.out.2.2 (by omega)
  have HCX : Hid (w.cell? ⟨bl, ofl + i, none⟩ = some (.int .i64 (l.getD i 0))) := hcl i _ (Lists.ints_at (by omega))
  rw [eP, lP] at o2
  obtain ⟨a2, c2, rfl, r2, z2⟩ := owns_row o2
  have HP2 : Hid (Row w2 a2 (steps i m) c2 (ints (way (l.take m) i))) := r2
  have HB2 : Hid (Below w.heap.size w w2) := bt HB1.out b2
  have rT : Row w (some ⟨bl, ofl, none⟩) m cap (ints (l.take m)) := by rw [Lists.ints_take]; exact HR.out.take m hm
  have cR := WalkCheck.root_any (l.take m) (some ⟨bl, ofl, none⟩) m cap w2 (rT.below HB2.out)
  rw [leafs_zero (by omega) hvt, show Trees.rootV (l.take m) = Trees.root (l.take m) from if_pos (leafs_zero (by omega) hvt), errv0] at cR
  have cS := fun w => WalkSteps.steps_yes i m I N w hI hN hi hm2
  have lT : (turns i m).length = steps i m := rfl
  -- all that is asked of a proof of this length
  have cC : ∀ (s : Int) (p : List Int) (a : Option Addr) (c : Nat) (w1 : World), Nums.valid s = true → (∀ x ∈ p, Nums.valid x = true) → Row w1 a (steps i m) c (ints p) →
      Calls Try.prog 12 #[.int .i64 (Trees.root (l.take m)), .int .i64 N, .int .i64 I, .int .i64 s, .slice a (steps i m) c] w1 fun e w' => e = .returned (errv (if upL s p (turns i m) = Trees.root (l.take m) then 0 else 8)) ∧ Below w1.heap.size w1 w' := by
    intro s p a c w1 hs hp hrow
    have h := WalkProofCheck.check_any (Trees.root (l.take m)) N I s p a (steps i m) c w1 hrow (by omega)
    rw [check_is hI hN hi hm2 vR hs hp (by rw [← hrow.1, Lists.ints_length])] at h
    exact h
  have cM : ∀ (A B : Int) (p : List Int) (fr : Nat) (K : Int) (a : Option Addr) (c : Nat) (w1 : World), K = fr → fr ≤ steps i m → Nums.valid A = true → Nums.valid B = true → (∀ x ∈ p, Nums.valid x = true) → meetsL A B (p.drop fr) ((turns i m).drop fr) = true → Row w1 a (steps i m) c (ints p) →
      Calls Try.prog 13 #[.int .i64 A, .int .i64 B, .int .i64 I, .int .i64 N, .slice a (steps i m) c, .int .i64 K] w1 fun e w' => e = .returned (.bool true) ∧ Below w1.heap.size w1 w' :=
    fun A B p fr K a c w1 hK hfr hA hB hp hM hrow => WalkTurn.meets_any A B i m fr I N K p a (steps i m) c w1 hI hN hK hi hm2 rfl hfr hrow hp hA hB hM
  have cT : ∀ (A : Int) (p : List Int) (k : Nat) (K : Int) (a : Option Addr) (c : Nat) (w1 : World), K = k → k < steps i m → Nums.valid A = true → (∀ x ∈ p, Nums.valid x = true) → Row w1 a (steps i m) c (ints p) →
      Calls Try.prog 14 #[.int .i64 A, .int .i64 I, .int .i64 N, .slice a (steps i m) c, .int .i64 K] w1 fun e w' =>
        e = .returned (.tuple #[.int .i64 (up1 A (p.getD k 0) ((turns i m).getD k false)), .string (Nums.str (text1 A (p.getD k 0) ((turns i m).getD k false)))]) ∧ Below w1.heap.size w1 w' :=
    fun A p k K a c w1 hK hk hA hp hrow => WalkTurn.step_any A i m k I N K p a (steps i m) c w1 hI hN hK hi hm2 rfl hk hrow hp hA
  have h1 : ¬ I < 0 := by omega
  have h2 : ¬ N ≤ I := by omega
  have h3 : ¬ (n : Int) < N := by omega
  have h4 : 0 ≤ N := by omega
  have h5 : N ≤ (cap : Int) := by have := HR.out.2.1; omega
  have h6 : N.toNat = m := by omega
  have h7 : 0 ≤ I := by omega
  have h8 : I < (n : Int) := by omega
  have h9 : I.toNat = i := by omega
  generalize way (l.take m) i = P at lP vP eU HP2
  generalize turns i m = T at eU lT cC cM cT
  generalize steps i m = k at lP sl lT HP2 cS cC cM cT
  generalize Trees.root (l.take m) = R at eU vR cR cC
  generalize l.getD i 0 = X at eU vX HCX
  have HEU : Hid (upL X P T = R) := eU
  have HVP : Hid (∀ x ∈ P, Nums.valid x = true) := vP
  have HVR : Hid (Nums.valid R = true) := vR
  have HVX : Hid (Nums.valid X = true) := vX
  have HLP : Hid (P.length = k) := lP
  have HLT : Hid (T.length = k) := lT
  have hk2 : k ≤ 200 := by omega
  clear q1 q2 hv hI hN hmn htk hvt eP o2 r2 z2 b2 rT hcl lP lT vP vR vX eU HB1 hF k1
  go_wp2_with fail
  refine cR.mono ?_
  rintro e w3 ⟨rfl, b3⟩
  clear cR
  go_wp2_with fail
  refine (cS _).mono ?_
  rintro e w4 ⟨rfl, b4⟩
  clear cS
  have HB4 : Hid (Below w2.heap.size w2 w4) := bt b3 b4
  have hx4 : w4.cell? ⟨bl, ofl + i, none⟩ = some (.int .i64 X) := Lists.cell_below (bt HB2.out HB4.out) HCX.out
  have hkk : ((k : Int) != (k : Int)) = false := by simp
  clear b3 b4
  go_wp2_with fail
  have c1 := cC X P a2 c2 w4 HVX.out HVP.out (HP2.out.below HB4.out)
  rw [if_pos HEU.out, errv0] at c1
  refine c1.mono ?_
  rintro e w5 ⟨rfl, b5⟩
  have HB5 : Hid (Below w2.heap.size w2 w5) := bt HB4.out b5
  have hx5 : w5.cell? ⟨bl, ofl + i, none⟩ = some (.int .i64 X) := Lists.cell_below (bt HB2.out HB5.out) HCX.out
  clear c1 b5 HB4 hx4
  -- another leaf
  go_upto_region 13 with fail
  go_cut [127] from 105 to 127 (fun v wc => v = .bool (decide (Nums.valid OT = true ∧ OT ≠ X ∧ upL OT P T = R)) ∧ Below w2.heap.size w2 wc)
  case first => as_aux_lemma =>
    by_cases p0 : 0 ≤ OT
    case neg =>
      have HD : Hid (decide (Nums.valid OT = true ∧ OT ≠ X ∧ upL OT P T = R) = false) := decide_eq_false fun h => p0 (Nums.valid_iff.1 h.1).1
      go_wp2_with fail
      go_meet
      case rel => exact ⟨by rw [HD.out], HB5.out⟩
    by_cases p1 : OT < 2147483647
    case neg =>
      have HD : Hid (decide (Nums.valid OT = true ∧ OT ≠ X ∧ upL OT P T = R) = false) := decide_eq_false fun h => p1 (Nums.valid_iff.1 h.1).2
      go_wp2_with fail
      go_meet
      case rel => exact ⟨by rw [HD.out], HB5.out⟩
    by_cases p2 : OT = X
    case pos =>
      have HD : Hid (decide (Nums.valid OT = true ∧ OT ≠ X ∧ upL OT P T = R) = false) := decide_eq_false fun h => h.2.1 p2
      have hne : (OT != X) = false := by rw [p2]; simp
      clear p2
      go_wp2_with fail
      go_meet
      case rel => exact ⟨by rw [HD.out], HB5.out⟩
    have hne : (OT != X) = true := by rw [bne_iff_ne]; exact p2
    have vO : Nums.valid OT = true := Nums.valid_iff.2 ⟨p0, p1⟩
    have c1 := cC OT P a2 c2 w5 vO HVP.out (HP2.out.below HB5.out)
    by_cases he : upL OT P T = R
    · rw [if_pos he, errv0] at c1
      have HD : Hid (decide (Nums.valid OT = true ∧ OT ≠ X ∧ upL OT P T = R) = true) := decide_eq_true ⟨vO, p2, he⟩
      clear p2 vO he cC cM cT
      go_wp2_with fail
      refine c1.mono ?_
      rintro e w6 ⟨rfl, b6⟩
      clear c1
      go_wp2_with fail
      go_meet
      case rel => exact ⟨by rw [HD.out], bt HB5.out b6⟩
    · rw [if_neg he, errv_pos 8 (by decide)] at c1
      have HD : Hid (decide (Nums.valid OT = true ∧ OT ≠ X ∧ upL OT P T = R) = false) := decide_eq_false fun h => he h.2.2
      clear p2 vO he cC cM cT
      go_wp2_with fail
      refine c1.mono ?_
      rintro e w6 ⟨rfl, b6⟩
      clear c1
      go_wp2_with fail
      go_meet
      case rel => exact ⟨by rw [HD.out], bt HB5.out b6⟩
  obtain ⟨rfl, bc⟩ := hcut
  have HBC : Hid (Below w2.heap.size w2 wc) := bc
  have HBW : Hid (Below w.heap.size w wc) := bt HB2.out bc
  have hxc : wc.cell? ⟨bl, ofl + i, none⟩ = some (.int .i64 X) := Lists.cell_below HBW.out HCX.out
  have HPC : Hid (Row wc a2 k c2 (ints P)) := HP2.out.below bc
  clear bc hx5 HB5 HP2
  by_cases hB : Nums.valid OT = true ∧ OT ≠ X ∧ upL OT P T = R
  · rw [decide_eq_true hB]
    have c1 := cM X OT P 0 0 a2 c2 wc rfl (by omega) HVX.out hB.1 HVP.out (Ways.meets_true P T X OT (by rw [HLP.out, HLT.out]) HVX.out hB.1 HVP.out (fun e => hB.2.1 e.symm) (by rw [HEU.out, hB.2.2])) HPC.out
    clear hB cC cM cT
    go_wp2_with fail
    refine c1.mono ?_
    rintro e w6 ⟨rfl, b6⟩
    clear c1
    go_wp2_with fail
    go_ret
    exact ⟨rfl, bt HBW.out b6⟩
  rw [decide_eq_false hB]
  clear hB
  -- one sum changed
  by_cases r0 : AT < 0
  · clear cC cM cT
    go_wp2_with fail
    go_ret
    exact ⟨rfl, HBW.out⟩
  by_cases r1 : (k : Int) ≤ AT
  · clear cC cM cT
    go_wp2_with fail
    go_ret
    exact ⟨rfl, HBW.out⟩
  by_cases r2 : TO < 0
  · clear cC cM cT
    go_wp2_with fail
    go_ret
    exact ⟨rfl, HBW.out⟩
  by_cases r3 : 2147483647 ≤ TO
  · clear cC cM cT
    go_wp2_with fail
    go_ret
    exact ⟨rfl, HBW.out⟩
  obtain ⟨t, hAT⟩ := Int.eq_ofNat_of_zero_le (show 0 ≤ AT by omega)
  have ht : t < k := by omega
  obtain ⟨bp, ofp, rfl, hcp⟩ := HPC.out.2.2 (by omega)
  have cp := hcp t _ (Lists.ints_at (by rw [HLP.out]; exact ht))
  have s0 : 0 ≤ AT := by omega
  have s1 : AT < (k : Int) := by omega
  have s2 : AT.toNat = t := by omega
  have HAT : Hid (AT = t) := hAT
  clear hAT
  by_cases r4 : TO = P.getD t 0
  · have hq : (TO == P.getD t 0) = true := by rw [r4]; simp
    generalize P.getD t 0 = Y at cp hq
    clear r4 cC cM cT
    go_wp2_with fail
    go_ret
    exact ⟨rfl, HBW.out⟩
  have hq : (TO == P.getD t 0) = false := by rw [beq_eq_false_iff_ne]; exact r4
  have HNE : Hid (P.getD t 0 ≠ TO) := fun e => r4 e.symm
  have HVT : Hid (Nums.valid TO = true) := Nums.valid_iff.2 ⟨by omega, by omega⟩
  obtain ⟨i0, hi0, hz0, hz1, hz2⟩ := info_parts info3
  have HNW : Hid (∀ j u, (ints P)[j]? = some u → wc.cell? ((⟨bp, ofp, none⟩ : Addr).add j) = some u) := by
    intro j u hj
    rw [show (⟨bp, ofp, none⟩ : Addr).add j = ⟨bp, ofp + j, none⟩ by (unfold Addr.add; split <;> simp_all)]
    exact hcp j u hj
  have HON : Hid (∀ u ∈ ints P, u.oneCell' = true) := by
    intro u hu
    obtain ⟨x, _, rfl⟩ := List.mem_map.1 hu
    rfl
  have HIL : Hid ((ints P).length = k * 1) := by show _ = _; rw [Lists.ints_length, HLP.out, Nat.mul_one]
  have HPT : Hid ((ints P)[t]? = some (.int .i64 (P.getD t 0))) := Lists.ints_at (by rw [HLP.out]; exact ht)
  have hlt := Lists.block_lt hxc
  obtain ⟨Y, HY⟩ : ∃ Y, Hid (P.getD t 0 = Y) := ⟨_, rfl⟩
  rw [HY.out] at hq cp HPT
  clear r4 hcp
  go_upto_region 19 with (at_builtin; go_must (refine wpList_append_own _ rfl (.tmp 161) (.tmp 162) 22 rfl wc.heap.size 3 i0 (.int .i64 0) 1 8 Try.underlying22 hi0 hz0 hz1 hz2 rfl (by decide) (.slice none 0 0) 0 [] rfl (World.ownsRow_nil _ _ _ _) ⟨bp, ofp, none⟩ k c2 (ints P) rfl HIL.out HNW.out HON.out (by unfold maxLen; omega) (by omega) (Nat.le_refl _) ?_); intro v3 wn oN gN zN; clear zN)
  rw [Nat.zero_add, List.nil_append] at oN
  obtain ⟨g, cq, rfl, y1, hg, hgl, y2, y3, hcell, hfr⟩ := owns_open oN (by omega)
  have cg := hcell t _ HPT.out
  have fg := hfr t
  have bN : Below wc.heap.size wc wn := (Below.refl _ wc).grown gN (Nat.le_refl _) (fun k hk => by cases hk)
  have hxn : wn.cell? ⟨bl, ofl + i, none⟩ = some (.int .i64 X) := Lists.cell_below bN hxc
  have hlt2 : bl < wc.heap.size := hlt
  have hxq : (wn.setCell ⟨g, t, none⟩ (.int .i64 TO)).cell? ⟨bl, ofl + i, none⟩ = some (.int .i64 X) := (World.cell?_setCell_other _ _ _ _ (by first | (simp; done) | (simp; omega))).trans hxn
  clear hcell hfr gN y1 y2 y3 hgl
  have oQ := owns_set oN t (.int .i64 TO)
  rw [show (ints P).set t (.int .i64 TO) = ints (P.set t TO) by simp [ints, List.map_set]] at oQ
  have HRQ : Hid (Row (wn.setCell ⟨g, t, none⟩ (.int .i64 TO)) (some ⟨g, 0, none⟩) k cq (ints (P.set t TO))) := (Row.of_owns oQ).2
  have bQ : Below wc.heap.size wc (wn.setCell ⟨g, t, none⟩ (.int .i64 TO)) := bN.setCell (by exact hg) _
  have HBQ : Hid (Below wc.heap.size wc (wn.setCell ⟨g, t, none⟩ (.int .i64 TO))) := bQ
  have HVQ : Hid (∀ x ∈ P.set t TO, Nums.valid x = true) := by
    intro x hx
    rcases List.mem_or_eq_of_mem_set hx with h | h
    · exact HVP.out x h
    · rw [h]; exact HVT.out
  have c1 := cC X (P.set t TO) (some ⟨g, 0, none⟩) cq _ HVX.out HVQ.out HRQ.out
  clear oN oQ bQ bN hxn
  by_cases he : upL X (P.set t TO) T = R
  case neg =>
    rw [if_neg he, errv_pos 8 (by decide)] at c1
    clear he cC cM cT
    go_wp2_with fail
    refine c1.mono ?_
    rintro e w7 ⟨rfl, b7⟩
    clear c1
    go_wp2_with fail
    go_ret
    exact ⟨rfl, bt (bt HBW.out HBQ.out) b7⟩
  rw [if_pos he, errv0] at c1
  have hCH := Turns.changed (s := X) (x := TO) (p := P) (ts := T) (k := t) (by rw [HLP.out]; exact ht) (by rw [HLP.out, HLT.out]) HVX.out HVP.out HVT.out HNE.out (by rw [HEU.out, he])
  have HCH : Hid _ := hCH
  clear he cC hCH
  go_wp2_with fail
  refine c1.mono ?_
  rintro e w7 ⟨rfl, b7⟩
  have HB7 : Hid (Below wc.heap.size wc w7) := bt HBQ.out b7
  have HR7 : Hid (Row w7 (some ⟨g, 0, none⟩) k cq (ints (P.set t TO))) := HRQ.out.below b7
  have hx7 : w7.cell? ⟨bl, ofl + i, none⟩ = some (.int .i64 X) := Lists.cell_below (bt HBW.out HB7.out) HCX.out
  clear c1 b7 hxq HRQ HBQ cg fg
  go_wp2_with fail
  go_loopw [22, 23] (fun a s wr => ∃ (A S : Int) (j : Nat), a = .int .i64 A ∧ s = .int .i64 S ∧ Hid (S = j) ∧ 0 ≤ S ∧ j ≤ t ∧ Hid (A = upL X (P.take j) (T.take j)) ∧ Below w7.heap.size w7 wr) (fun _ s _ => t - (intOf s).toNat)
  case atStart => exact ⟨X, 0, 0, rfl, rfl, rfl, by omega, by omega, rfl, Below.refl _ _⟩
  case round =>
    obtain ⟨A, S, j, rfl, rfl, HS, sj0, hj, HA, hb⟩ := hrel
    have vA : Nums.valid A = true := by rw [HA.out]; exact Ways.upL_valid _ _ _ HVX.out
    have HRr : Hid (Row wr (some ⟨bp, ofp, none⟩) k c2 (ints P)) := (HPC.out.below HB7.out).below hb
    by_cases hjt : j < t
    · have e1 : S < AT := by have := HS.out; have := HAT.out; omega
      have c1 := cT A P j S (some ⟨bp, ofp, none⟩) c2 wr HS.out (by omega) vA HVP.out HRr.out
      have HN : Hid (up1 A (P.getD j 0) (T.getD j false) = upL X (P.take (j + 1)) (T.take (j + 1))) := by
        show _ = _
        rw [Turns.up_next X P T j (by rw [HLP.out]; omega) (by rw [HLP.out, HLT.out]), HA.out]
      generalize up1 A (P.getD j 0) (T.getD j false) = u at c1 HN
      generalize Nums.str (text1 A (P.getD j 0) (T.getD j false)) = s1 at c1
      clear cT cM vA HRr HCH
      go_wp2_with fail
      refine c1.mono ?_
      rintro e w8 ⟨rfl, b8⟩
      have HB8 : Hid (Below w7.heap.size w7 w8) := bt hb b8
      clear c1 b8 hb
      go_wp2_with fail
      go_roundw
      case rel => exact ⟨u, S + 1, j + 1, rfl, by go_num, (show S + 1 = ((j + 1 : Nat) : Int) by have := HS.out; omega), by omega, by omega, HN, HB8.out⟩
      case measure => simp [intOf]; have := HS.out; omega
    · obtain rfl : j = t := by omega
      have e1 : ¬ S < AT := by have := HS.out; have := HAT.out; omega
      have hQt : (P.set j TO).getD j 0 = TO := by rw [List.getD_eq_getElem?_getD, List.getElem?_set_self (by rw [HLP.out]; exact ht)]; rfl
      have c1 := cT A P j AT (some ⟨bp, ofp, none⟩) c2 wr HAT.out ht vA HVP.out HRr.out
      have c2' := fun w1 (b : Below wr.heap.size wr w1) => cT A (P.set j TO) j AT (some ⟨g, 0, none⟩) cq w1 HAT.out ht vA HVQ.out ((HR7.out.below hb).below b)
      have hch := HCH.out
      rw [← HA.out] at hch
      rw [hQt] at c2'
      have q1 := WalkTurn.beq_text hch.1
      have v1 := Ways.up1_valid A (P.getD j 0) (T.getD j false)
      have v2 := Ways.up1_valid A TO (T.getD j false)
      have HM := hch.2
      generalize Nums.str (text1 A (P.getD j 0) (T.getD j false)) = s1 at c1 q1
      generalize Nums.str (text1 A TO (T.getD j false)) = s2 at c2' q1
      generalize up1 A (P.getD j 0) (T.getD j false) = u1 at c1 v1 HM
      generalize up1 A TO (T.getD j false) = u2 at c2' v2 HM
      have HBr : Hid (Below w.heap.size w wr) := bt (bt HBW.out HB7.out) hb
      by_cases hu : u1 = u2
      · have q2 : (u1 == u2) = true := by rw [beq_iff_eq]; exact hu
        clear hu HM v1 v2 hch hQt vA cT cM HCH
        go_wp2_with fail
        refine c1.mono ?_
        rintro e w8 ⟨rfl, b8⟩
        clear c1
        have c3 := c2' w8 b8
        clear c2'
        go_wp2_with fail
        refine c3.mono ?_
        rintro e w9 ⟨rfl, b9⟩
        clear c3
        go_wp2_with fail
        go_ret
        exact ⟨rfl, bt (bt HBr.out b8) b9⟩
      · have q2 : (u1 == u2) = false := by rw [beq_eq_false_iff_ne]; exact hu
        have c4 := fun w1 (b : Below wr.heap.size wr w1) => cM u1 u2 P (j + 1) (AT + 1) (some ⟨bp, ofp, none⟩) c2 w1 (by have := HAT.out; omega) (by omega) v1 v2 HVP.out (HM hu) (HRr.out.below b)
        clear hu HM v1 v2 hch hQt vA cT cM HCH
        go_wp2_with fail
        refine c1.mono ?_
        rintro e w8 ⟨rfl, b8⟩
        clear c1
        have c3 := c2' w8 b8
        clear c2'
        go_wp2_with fail
        refine c3.mono ?_
        rintro e w9 ⟨rfl, b9⟩
        clear c3
        have c5 := c4 w9 (bt b8 b9)
        clear c4
        go_wp2_with fail
        refine c5.mono ?_
        rintro e w10 ⟨rfl, b10⟩
        clear c5
        go_wp2_with fail
        go_ret
        exact ⟨rfl, bt (bt (bt HBr.out b8) b9) b10⟩

end Go.Proofs.Ytibmgmadoaencab.WalkProofProves
