/-
  The walk of GrowProves: what has but grown is proved so; with another new root it is not, with another old one it is not, or two texts that are not the same have one sum.
-/
import Derived.Test.YtibmgmadoaencacDoorWalkGrow
import Derived.Test.YtibmgmadoaencacDoorWalkComes
import Derived.Test.YtibmgmadoaencacDoorWalkTold
namespace Go.Proofs.YtibmgmadoaencacDoor.WalkGrowProves
open Go.RowKit
open Lists (Row ints bt)
open Keeps (Kept owns_kept owns_row owns_open)
open WalkTold (Laid)
open WalkCheck (errv errv0 errv_pos)
open GrowsE (inGrow inGrow_of inGrow_no gmakeE gmakeL gmake_of growE growE_is leafs_ok leafs_zero)
open Grows (gsteps grow oldOf newOf grownE known gturns)

theorem fact_ok : gmakeE [5, 6, 7] 2 3 = 0 := by decide +kernel
theorem fact_is : gmakeL [5, 6, 7] 2 3 = [7] := by decide +kernel

theorem row_three (w : World) : Row (w.alloc (.cells #[.int .i64 5, .int .i64 6, .int .i64 7] 3)) (some ⟨w.heap.size, 0, none⟩) 3 3 (ints [5, 6, 7]) := by
  refine ⟨rfl, Nat.le_refl _, fun _ => ⟨w.heap.size, 0, rfl, fun j u hj => ?_⟩⟩
  match j, hj with
  | 0, hj => simp [ints] at hj; subst hj; simp
  | 1, hj => simp [ints] at hj; subst hj; simp
  | 2, hj => simp [ints] at hj; subst hj; simp

/-- what another root comes to -/
theorem other_new {a b x : Int} {o n : Nat} {p : List Int} (hp : p.length = gsteps o n true) (h1 : oldOf a o n p true = a) (h2 : newOf a o n p true = b) : grownE a x o n p = if b = x then 0 else 8 := by
  unfold grownE
  rw [if_pos hp, h1, h2]
  by_cases h : b = x
  · rw [if_pos ⟨rfl, h⟩, if_pos h]
  · rw [if_neg (fun k => h k.2), if_neg h]
theorem other_old {a b x : Int} {o n : Nat} {p : List Int} (hp : p.length = gsteps o n true) (h1 : oldOf a o n p true = a) (h2 : newOf a o n p true = b) (hx : x ≠ a) :
    grownE x b o n p = 8 ∨ (grownE x b o n p = 0 ∧ known true o n = true ∧ Ways.upL a p (gturns o n) = Ways.upL x p (gturns o n)) := by
  unfold grownE
  rw [if_pos hp]
  cases hk : known true o n
  · left
    obtain ⟨q1, q2⟩ := Grows.of_unknown hk x a p
    rw [q1, h1, if_neg (fun k => hx k.1.symm)]
  · rw [Grows.oldOf_known hk, Grows.newOf_known hk]
    rw [Grows.newOf_known hk] at h2
    by_cases h : Ways.upL x p (gturns o n) = b
    · right
      rw [if_pos ⟨rfl, h⟩, h2, h]
      exact ⟨rfl, rfl, rfl⟩
    · left
      rw [if_neg (fun k => h k.2)]

set_option maxHeartbeats 16000000 in
set_option maxRecDepth 100000 in
theorem walk (a : Option Addr) (n cap : Nat) (l : List Int) (_hz : l.length * 8 ≤ 140737488351232) (_ : ∀ x ∈ l, (Lit.int .i64 x).wf = true)
    (O : Int) (_ : (Lit.int .i64 O).wf = true) (N : Int) (_ : (Lit.int .i64 N).wf = true) (OT : Int) (_ : (Lit.int .i64 OT).wf = true)
    (w : World) (hr : Row w a n cap (ints l)) (hL : Laid w) :
    Calls Tryd.prog 5 #[.slice a n cap, .int .i64 O, .int .i64 N, .int .i64 OT] w fun e w' => e = .returned (.bool true) ∧ Below w.heap.size w w' := by
  have hln : l.length = n := by rw [← hr.1, Lists.ints_length]
  have HR : Hid (Row w a n cap (ints l)) := hr
  have HL : Hid (Laid w) := hL
  have c0 := WalkGrow.make_any [5, 6, 7] _ 3 3 2 3 _ (row_three w)
  rw [fact_ok, fact_is, errv0] at c0
  have HB0 : Hid (Below w.heap.size w (w.alloc (.cells #[.int .i64 5, .int .i64 6, .int .i64 7] 3))) := (Below.refl _ w).alloc (Nat.le_refl _) _
  clear hr _hz hL
  go_enter Tryd.func5, Tryd.ntmps5
  go_wp2_with fail
  refine c0.mono ?_
  rintro e w1 ⟨v1, rfl, o1, b1⟩
  obtain ⟨g1, cp1, rfl, z1, z2, z3, z4, z5, hc1, z6⟩ := owns_open o1 (by decide)
  have k1 : w1.cell? ⟨g1, 0, none⟩ = some (.int .i64 7) := hc1 0 _ rfl
  have HB1 : Hid (Below w.heap.size w w1) := bt HB0.out b1
  have hlen : ([7] : List Int).length = 1 := rfl
  rw [hlen]
  clear c0 o1 b1 hc1 HB0 hlen z1 z2 z3 z4 z5 z6
  go_wp2_with fail
  refine (WalkGrow.make_any l a n cap O N _ (HR.out.below HB1.out)).mono ?_
  rintro e w2 ⟨v2, rfl, o2, b2⟩
  by_cases hF : gmakeE l O N = 0
  case neg =>
    rw [errv_pos _ hF]
    obtain ⟨a2, c2, rfl, z1, z2⟩ := owns_row o2
    have HB2 : Hid (Below w.heap.size w w2) := bt HB1.out b2
    generalize gmakeE l O N = F
    generalize (gmakeL l O N).length = k
    clear o2 b2 z1 z2 hF HB1 k1
    go_wp2_with fail
    go_ret
    exact ⟨rfl, HB2.out⟩
  -- what has but grown is proved so
  obtain ⟨q1, q2⟩ := gmake_of hF
  rw [hF, errv0]
  rw [hln] at q2
  obtain ⟨n2, hv⟩ := leafs_ok hln q1
  obtain ⟨o, m, hO, hN, ho1, hom, hmn⟩ := inGrow_of q2
  have hm : m ≤ n := by omega
  have hm2 : m ≤ 200 := by omega
  have htk : (l.take m).length = m := by rw [List.length_take]; omega
  have hto : (l.take o).length = o := by rw [List.length_take]; omega
  have hvt : ∀ x ∈ l.take m, Nums.valid x = true := fun x hx => hv x (List.mem_of_mem_take hx)
  have hvo : ∀ x ∈ l.take o, Nums.valid x = true := fun x hx => hv x (List.mem_of_mem_take hx)
  have eP : gmakeL l O N = grow (l.take m) o true := by unfold gmakeL; rw [if_pos hF, hO, hN, Int.toNat_natCast, Int.toNat_natCast]
  have lP : (grow (l.take m) o true).length = gsteps o m true := by
    have h := Grows.grow_length _ (l.take m) o true (Nat.le_refl _) ho1 (by omega)
    rw [htk] at h
    exact h
  have sl := Grows.gsteps_le o m true
  have vP := Grows.grow_valid _ (l.take m) o true (Nat.le_refl _) ho1 (by omega) hvt
  have eG := Grows.of_grow _ (l.take m) o true (Trees.root (l.take o)) (Nat.le_refl _) ho1 (by omega) (fun _ => by rw [List.take_take, Nat.min_eq_left hom])
  rw [htk, List.take_take, Nat.min_eq_left hom] at eG
  have vA := Trees.root_valid (l.take o) hvo
  have vB := Trees.root_valid (l.take m) hvt
  obtain ⟨bl, ofl, rfl, hcl⟩ := HR.out.2.2 (by omega)
  rw [eP, lP] at o2
  obtain ⟨a2, c2, rfl, r2, z2⟩ := owns_row o2
  have HP2 : Hid (Row w2 a2 (gsteps o m true) c2 (ints (grow (l.take m) o true))) := r2
  have HB2 : Hid (Below w.heap.size w w2) := bt HB1.out b2
  have rO : Row w (some ⟨bl, ofl, none⟩) o cap (ints (l.take o)) := by rw [Lists.ints_take]; exact HR.out.take o (by omega)
  have rM : Row w (some ⟨bl, ofl, none⟩) m cap (ints (l.take m)) := by rw [Lists.ints_take]; exact HR.out.take m hm
  have cA := fun w1 (b : Below w.heap.size w w1) => WalkCheck.root_any (l.take o) (some ⟨bl, ofl, none⟩) o cap w1 (rO.below b)
  have cB := fun w1 (b : Below w.heap.size w w1) => WalkCheck.root_any (l.take m) (some ⟨bl, ofl, none⟩) m cap w1 (rM.below b)
  rw [leafs_zero (by omega) hvo, show Trees.rootV (l.take o) = Trees.root (l.take o) from if_pos (leafs_zero (by omega) hvo), errv0] at cA
  rw [leafs_zero (by omega) hvt, show Trees.rootV (l.take m) = Trees.root (l.take m) from if_pos (leafs_zero (by omega) hvt), errv0] at cB
  have cC : ∀ (ra rb : Int) (w1 : World), Nums.valid ra = true → Nums.valid rb = true → Below w2.heap.size w2 w1 →
      Calls Tryd.prog 14 #[.int .i64 ra, .int .i64 O, .int .i64 rb, .int .i64 N, .slice a2 (gsteps o m true) c2] w1 fun e w' => e = .returned (errv (grownE ra rb o m (grow (l.take m) o true))) ∧ Below w1.heap.size w1 w' := by
    intro ra rb w1 va vb hb
    have h := WalkGrow.check_any ra O rb N (grow (l.take m) o true) a2 (gsteps o m true) c2 w1 (r2.below hb) (by omega)
    rw [growE_is hO hN ho1 hom hm2 va vb vP] at h
    exact h
  have e1 : ∀ x, grownE (Trees.root (l.take o)) x o m (grow (l.take m) o true) = if Trees.root (l.take m) = x then 0 else 8 := fun x => other_new lP eG.1 eG.2
  have e2 : ∀ x, x ≠ Trees.root (l.take o) → grownE x (Trees.root (l.take m)) o m (grow (l.take m) o true) = 8 ∨ (grownE x (Trees.root (l.take m)) o m (grow (l.take m) o true) = 0 ∧ known true o m = true ∧ Ways.upL (Trees.root (l.take o)) (grow (l.take m) o true) (gturns o m) = Ways.upL x (grow (l.take m) o true) (gturns o m)) := fun x hx => other_old lP eG.1 eG.2 hx
  have h1 : ¬ O < 1 := by omega
  have h2 : ¬ N < O := by omega
  have h3 : ¬ (n : Int) < N := by omega
  have h4 : 0 ≤ N := by omega
  have h5 : N ≤ (cap : Int) := by have := HR.out.2.1; omega
  have h6 : N.toNat = m := by omega
  have h7 : 0 ≤ O := by omega
  have h8 : O ≤ (cap : Int) := by omega
  have h9 : O.toNat = o := by omega
  have hgk : gsteps o m true ≤ 1000 := by omega
  have lT : known true o m = true → (grow (l.take m) o true).length = (gturns o m).length := fun h => by rw [lP, Grows.known_length h]
  have sT : known true o m = true → Grows.straight (gturns o m) = true := Grows.known_straight
  generalize grow (l.take m) o true = P at vP HP2 cC e1 e2 lT
  generalize gturns o m = T at e2 lT sT
  generalize known true o m = kn at e2 lT sT
  generalize gsteps o m true = k at HP2 cC hgk
  generalize Trees.root (l.take o) = RA at vA cA e1 e2
  generalize Trees.root (l.take m) = RB at vB cB e1 e2
  have HVP : Hid (∀ x ∈ P, Nums.valid x = true) := vP
  have HVA : Hid (Nums.valid RA = true) := vA
  have HVB : Hid (Nums.valid RB = true) := vB
  have HLT : Hid (kn = true → P.length = T.length) := lT
  have HST : Hid (kn = true → Grows.straight T = true) := sT
  have cErr := fun (e : Nat) (w1 : World) (b : Below w.heap.size w w1) => WalkTold.error_is e 8 w1 (HL.out.below b)
  have H1 : Hid (∀ x, grownE RA x o m P = if RB = x then 0 else 8) := e1
  have H2 : Hid (∀ x, x ≠ RA → grownE x RB o m P = 8 ∨ (grownE x RB o m P = 0 ∧ kn = true ∧ Ways.upL RA P T = Ways.upL x P T)) := e2
  clear q1 q2 hv hO hN hmn htk hto hvt hvo eP lP o2 r2 z2 b2 rO rM hcl vP vA vB eG HB1 hF k1 lT sT sl e1 e2
  go_wp2_with fail
  refine (cA _ HB2.out).mono ?_
  rintro e w3 ⟨rfl, b3⟩
  clear cA
  have HB3 : Hid (Below w2.heap.size w2 w3) := b3
  have c4 := cB w3 (bt HB2.out b3)
  clear cB b3
  go_wp2_with fail
  refine c4.mono ?_
  rintro e w4 ⟨rfl, b4⟩
  clear c4
  have HB4 : Hid (Below w2.heap.size w2 w4) := bt HB3.out b4
  clear b4 HB3
  have c5 := cC RA RB w4 HVA.out HVB.out HB4.out
  rw [H1.out RB, if_pos rfl, errv0] at c5
  go_wp2_with fail
  refine c5.mono ?_
  rintro e w5 ⟨rfl, b5⟩
  clear c5
  have HB5 : Hid (Below w2.heap.size w2 w5) := bt HB4.out b5
  have HW5 : Hid (Below w.heap.size w w5) := bt HB2.out HB5.out
  clear b5 HB4
  by_cases p0 : OT < 0
  · clear cC cErr
    go_wp2_with fail
    go_ret
    exact ⟨rfl, HW5.out⟩
  by_cases p1 : 2147483647 ≤ OT
  · clear cC cErr
    go_wp2_with fail
    go_ret
    exact ⟨rfl, HW5.out⟩
  have vO : Nums.valid OT = true := Nums.valid_iff.2 ⟨by omega, by omega⟩
  have HVO : Hid (Nums.valid OT = true) := vO
  have c6 := cC RA OT w5 HVA.out vO HB5.out
  have HE1 : Hid (grownE RA OT o m P = if RB = OT then 0 else 8) := H1.out OT
  generalize grownE RA OT o m P = E1 at c6 HE1
  go_wp2_with fail
  refine c6.mono ?_
  rintro e w6 ⟨rfl, b6⟩
  have HB6 : Hid (Below w2.heap.size w2 w6) := bt HB5.out b6
  have c7 := cErr E1 w6 (bt HB2.out HB6.out)
  clear c6 b6
  go_wp2_with fail
  refine c7.mono ?_
  rintro e w7 ⟨rfl, b7⟩
  have HB7 : Hid (Below w2.heap.size w2 w7) := bt HB6.out b7
  have c8 := cC OT RB w7 vO HVB.out HB7.out
  have HE2 : Hid (OT ≠ RA → grownE OT RB o m P = 8 ∨ grownE OT RB o m P = 0 ∧ kn = true ∧ Ways.upL RA P T = Ways.upL OT P T) := H2.out OT
  generalize grownE OT RB o m P = E2 at c8 HE2
  clear c7 b7 cC vO
  obtain ⟨X1, HX1⟩ : ∃ X1 : Bool, Hid ((((E1 : Nat) : Int) == 8) = X1) := ⟨_, rfl⟩
  rw [HX1.out]
  go_wp2_with fail
  refine c8.mono ?_
  rintro e w8 ⟨rfl, b8⟩
  have HB8 : Hid (Below w2.heap.size w2 w8) := bt HB7.out b8
  have c9 := cErr E2 w8 (bt HB2.out HB8.out)
  clear c8 b8 cErr
  go_wp2_with fail
  refine c9.mono ?_
  rintro e w9 ⟨rfl, b9⟩
  have HB9 : Hid (Below w2.heap.size w2 w9) := bt HB8.out b9
  have HW9 : Hid (Below w.heap.size w w9) := bt HB2.out HB9.out
  clear c9 b9
  obtain ⟨X2, HX2⟩ : ∃ X2 : Bool, Hid ((((E2 : Nat) : Int) == 8) = X2) := ⟨_, rfl⟩
  rw [HX2.out]
  have hB : ((OT == RB) = true ∧ Hid (X1 = X1)) ∨ ((OT == RB) = false ∧ Hid (X1 = true)) := by
    by_cases h : OT = RB
    · exact .inl ⟨by rw [beq_iff_eq]; exact h, rfl⟩
    · refine .inr ⟨by rw [beq_eq_false_iff_ne]; exact h, ?_⟩
      show _ = _
      rw [← HX1.out, HE1.out, if_neg (fun k => h k.symm)]
      rfl
  have hA : (OT == RA) = true ∨ ((OT == RA) = false ∧ (Hid (X2 = true) ∨ (Hid (X2 = false) ∧ Hid (OT ≠ RA ∧ kn = true ∧ Ways.upL RA P T = Ways.upL OT P T)))) := by
    by_cases h : OT = RA
    · exact .inl (by rw [beq_iff_eq]; exact h)
    · refine .inr ⟨by rw [beq_eq_false_iff_ne]; exact h, ?_⟩
      rcases HE2.out h with e | ⟨e, e', e''⟩
      · left
        show _ = _
        rw [← HX2.out, e]; rfl
      · right
        refine ⟨?_, h, e', e''⟩
        show _ = _
        rw [← HX2.out, e]; rfl
  have cK : Hid (OT ≠ RA ∧ kn = true ∧ Ways.upL RA P T = Ways.upL OT P T) → Calls Tryd.prog 17 #[.int .i64 RA, .int .i64 OT, .slice a2 k c2] w9 fun e w' => e = .returned (.bool true) ∧ Below w9.heap.size w9 w' := fun h =>
    WalkComes.comes_any RA OT P T a2 k c2 w9 (HST.out h.out.2.1) (HLT.out h.out.2.1) hgk (HP2.out.below HB9.out) HVP.out HVA.out HVO.out (Ways.meets_true P T RA OT (HLT.out h.out.2.1) HVA.out HVO.out HVP.out (fun e => h.out.1 e.symm) h.out.2.2)
  clear HX1 HX2 HE1 HE2
  rcases hB with ⟨y1, y2⟩ | ⟨y1, y2⟩
  · rcases hA with x1 | ⟨x1, x2 | ⟨x2, x3⟩⟩
    · cases X1
      all_goals
        go_wp2_with fail
        go_ret
        exact ⟨rfl, HW9.out⟩
    · obtain rfl : X2 = true := x2.out
      cases X1
      all_goals
        go_wp2_with fail
        go_ret
        exact ⟨rfl, HW9.out⟩
    · obtain rfl : X2 = false := x2.out
      have c10 := cK x3
      clear cK
      cases X1
      all_goals
        go_wp2_with fail
        refine c10.mono ?_
        rintro e w10 ⟨rfl, b10⟩
        clear c10
        go_wp2_with fail
        go_ret
        exact ⟨rfl, bt HW9.out b10⟩
  · obtain rfl : X1 = true := y2.out
    rcases hA with x1 | ⟨x1, x2 | ⟨x2, x3⟩⟩
    · go_wp2_with fail
      go_ret
      exact ⟨rfl, HW9.out⟩
    · obtain rfl : X2 = true := x2.out
      go_wp2_with fail
      go_ret
      exact ⟨rfl, HW9.out⟩
    · obtain rfl : X2 = false := x2.out
      have c10 := cK x3
      clear cK
      go_wp2_with fail
      refine c10.mono ?_
      rintro e w10 ⟨rfl, b10⟩
      clear c10
      go_wp2_with fail
      go_ret
      exact ⟨rfl, bt HW9.out b10⟩

end Go.Proofs.YtibmgmadoaencacDoor.WalkGrowProves
