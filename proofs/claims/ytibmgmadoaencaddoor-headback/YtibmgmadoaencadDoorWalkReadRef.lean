/-
  What the document's own answer (package witref1) returns on the text of a head: ReadHead.
-/
import Derived.Test.YtibmgmadoaencadDoorWalkVerifyRef
import Derived.Test.YtibmgmadoaencadDoorWalkNumberRef
import Derived.Laws.ResultCell
import Derived.Deep.MidRow
namespace Go.Proofs.YtibmgmadoaencadDoor.WalkReadRef
open Go.RowKit
open Lists (Row strs bt)
open Keeps (owns_open)
open Heads (Head ok headE parse zero)
open Decimals (number words)
open Nums (str read)
open HeadVals (hv aggH sizeH)
open WalkNumberRef (numV numB)

theorem parse_not {s : List UInt8} (h : (words 32 s).length ≠ 4) : parse s = (zero, 2) := by
  unfold parse
  split
  · rename_i hw
    rw [hw] at h
    exact absurd rfl h
  · rfl
/-- what four words come to -/
def fourE (a b c d : List UInt8) : Nat := if numB a = true ∧ numB c = true ∧ (read b).2 ≠ 2 ∧ (read d).2 ≠ 2 then (if (read b).2 = 0 ∧ (read d).2 = 0 ∧ ok ⟨(numV a : Nat), (read b).1, (numV c : Nat), (read d).1⟩ = true then 0 else 1) else 2
theorem parse_four {s a b c d : List UInt8} (h : words 32 s = [a, b, c, d]) : parse s = (if fourE a b c d = 0 then ⟨(numV a : Nat), (read b).1, (numV c : Nat), (read d).1⟩ else zero, fourE a b c d) := by
  unfold parse
  simp only [h]
  cases ha : number a 9 with
  | none =>
    have e : numB a = false := by unfold numB; rw [ha]; rfl
    have hf : fourE a b c d = 2 := if_neg (fun q => by rw [e] at q; cases q.1)
    rw [hf]
    rfl
  | some x =>
    have e1 : numB a = true := by unfold numB; rw [ha]; rfl
    have e2 : numV a = x := by unfold numV; rw [ha]; rfl
    cases hc : number c 9 with
    | none =>
      have e : numB c = false := by unfold numB; rw [hc]; rfl
      have hf : fourE a b c d = 2 := if_neg (fun q => by rw [e] at q; cases q.2.1)
      rw [hf]
      rfl
    | some y =>
      have e3 : numB c = true := by unfold numB; rw [hc]; rfl
      have e4 : numV c = y := by unfold numV; rw [hc]; rfl
      by_cases hq : (read b).2 = 2 ∨ (read d).2 = 2
      · have hf : fourE a b c d = 2 := if_neg (fun q => by rcases hq with r | r; exact q.2.2.1 r; exact q.2.2.2 r)
        rw [hf]
        simp only [if_pos hq]
        rfl
      · have hf : fourE a b c d = if (read b).2 = 0 ∧ (read d).2 = 0 ∧ ok ⟨(x : Int), (read b).1, (y : Int), (read d).1⟩ = true then 0 else 1 := by
          unfold fourE
          rw [if_pos ⟨e1, e3, fun q => hq (.inl q), fun q => hq (.inr q)⟩, e2, e4]
        rw [hf, e2, e4]
        simp only [if_neg hq]
        by_cases hr : (read b).2 = 0 ∧ (read d).2 = 0 ∧ ok ⟨(x : Int), (read b).1, (y : Int), (read d).1⟩ = true
        · rw [if_pos hr, if_pos hr]
          rfl
        · rw [if_neg hr, if_neg hr]
          rfl

/-- four numbers in a block -/
def quad (a b c d : Int) : Nat → Value := fun j => if j = 0 then .int .i64 a else if j = 1 then .int .i64 b else if j = 2 then .int .i64 c else .int .i64 d
theorem quad_new (w : World) (a b c d : Int) : (w.alloc (.cells #[.int .i64 a, .int .i64 b, .int .i64 c, .int .i64 d] 59)).rowIs w.heap.size 59 4 (quad a b c d) := World.rowIs_alloc _ _ _ _ (fun j hj => by match j, hj with | 0, _ | 1, _ | 2, _ | 3, _ => rfl | j + 4, h => simp at h; omega)
theorem quad_set {w : World} {g : Nat} {f : Nat → Value} (h : w.rowIs g 59 4 f) (a b c d : Int) : ((((w.setCell ⟨g, 0, none⟩ (.int .i64 a)).setCell ⟨g, 1, none⟩ (.int .i64 b)).setCell ⟨g, 2, none⟩ (.int .i64 c)).setCell ⟨g, 3, none⟩ (.int .i64 d)).rowIs g 59 4 (quad a b c d) :=
  ((((h.set 0 _).set 1 _).set 2 _).set 3 _).congr fun j hj => by match j, hj with | 0, _ | 1, _ | 2, _ | 3, _ => rfl | j + 4, h => omega
theorem ret_head {w : World} {g : Nat} {a b c d : Int} (tmps : Array Value) (hp : tmps.getD 2 undef = .pointer (some ⟨g, 0, none⟩)) (h : w.rowIs g 59 4 (quad a b c d)) :
    (results Tryd.f27 tmps).run Tryd.prog w = .ok (.tuple #[hv ⟨a, b, c, d⟩, tmps.getD 3 undef]) w := by
  have hl := run_loadVar_mid (P := Tryd.prog) w g 0 59 [.int .i64 a, .int .i64 b, .int .i64 c, .int .i64 d] _ (fun j v hv => by
    match j, hv with
    | 0, hv => simp at hv; subst hv; simpa [quad] using h.cell (i := 0) (by omega)
    | 1, hv => simp at hv; subst hv; simpa [quad] using h.cell (i := 1) (by omega)
    | 2, hv => simp at hv; subst hv; simpa [quad] using h.cell (i := 2) (by omega)
    | 3, hv => simp at hv; subst hv; simpa [quad] using h.cell (i := 3) (by omega)) Tryd.underlying59 rfl (by kernel_rfl)
  rw [results_cell_tmp rfl, hp]
  simp [asAddr, hl, Result.andThen, hv]
theorem set_below {B : Nat} {w0 w : World} {g : Nat} (h : Below B w0 w) (hg : B ≤ g) (a b c d : Value) : Below B w0 ((((w.setCell ⟨g, 0, none⟩ a).setCell ⟨g, 1, none⟩ b).setCell ⟨g, 2, none⟩ c).setCell ⟨g, 3, none⟩ d) := (((h.setCell hg _).setCell hg _).setCell hg _).setCell hg _

set_option maxHeartbeats 4000000 in
set_option maxRecDepth 100000 in
theorem read_any (s : ByteArray) (w : World) (hs : s.size ≤ 1048576) :
    Calls Tryd.prog 27 #[.string s] w fun e w' => e = .returned (.tuple #[hv (parse s.data.toList).1, .int .i64 ((parse s.data.toList).2 : Nat)]) ∧ Below w.heap.size w w' := by
  have HQ : Hid ((w.alloc (.cells #[.int .i64 0, .int .i64 0, .int .i64 0, .int .i64 0] 59)).rowIs w.heap.size 59 4 (quad 0 0 0 0)) := quad_new w 0 0 0 0
  have HB : Hid (Below w.heap.size w (w.alloc (.cells #[.int .i64 0, .int .i64 0, .int .i64 0, .int .i64 0] 59))) := (Below.refl _ _).alloc (Nat.le_refl _) _
  have cC := fun w1 => WalkNumberRef.cut_any s 32 w1 hs
  have a52 := aggH
  have z52 := sizeH
  go_enter Tryd.func27, Tryd.ntmps27
  go_wp2_with fail
  generalize w.alloc (.cells #[.int .i64 0, .int .i64 0, .int .i64 0, .int .i64 0] 59) = w1 at HQ HB ⊢
  refine (cC _).mono ?_
  rintro e w2 ⟨v, rfl, o2, b2⟩
  replace HQ : Hid (w2.rowIs w.heap.size 59 4 (quad 0 0 0 0)) := HQ.out.of_block (b2.block _ HQ.out.lt)
  replace HB : Hid (Below w.heap.size w w2) := bt HB.out b2
  clear cC b2
  by_cases h4 : (words 32 s.data.toList).length = 4
  · match hw : words 32 s.data.toList, h4 with
    | [a, b, c, d], _ =>
      rw [hw] at o2
      have HP := parse_four hw
      obtain ⟨g, cp, rfl, z1, z2, z3, z4, z5, hc2, z6⟩ := owns_open o2 (by simp)
      have m0 : w2.cell? ⟨g, 0, none⟩ = some (.string (str a)) := hc2 0 _ rfl
      have m1 : w2.cell? ⟨g, 1, none⟩ = some (.string (str b)) := hc2 1 _ rfl
      have m2 : w2.cell? ⟨g, 2, none⟩ = some (.string (str c)) := hc2 2 _ rfl
      have m3 : w2.cell? ⟨g, 3, none⟩ = some (.string (str d)) := hc2 3 _ rfl
      have hlen : ([a, b, c, d] : List (List UInt8)).length = 4 := rfl
      rw [hlen]
      have hsz : ∀ x ∈ [a, b, c, d], (str x).size ≤ maxLen := by
        intro x hx
        have j := Decimals.joined_words 32 s.data.toList
        rw [hw] at j
        have hl := congrArg List.length j
        simp only [Decimals.joined, List.length_append, List.length_cons] at hl
        have hsl : s.data.toList.length = s.size := by simp
        rw [Nums.str_size]
        unfold maxLen
        simp only [List.mem_cons, List.not_mem_nil, or_false] at hx
        rcases hx with rfl | rfl | rfl | rfl <;> omega
      have cA := fun w => WalkNumberRef.number_any (str a) w (hsz a (by simp))
      have cB := fun w => WalkRef.read_any (str b) w
      have cC := fun w => WalkNumberRef.number_any (str c) w (hsz c (by simp))
      have cD := fun w => WalkRef.read_any (str d) w
      rw [Nums.str_data] at cA cB cC cD
      have HE : Hid (fourE a b c d = if numB a = true ∧ numB c = true ∧ (read b).2 ≠ 2 ∧ (read d).2 ≠ 2 then (if (read b).2 = 0 ∧ (read d).2 = 0 ∧ ok ⟨(numV a : Nat), (read b).1, (numV c : Nat), (read d).1⟩ = true then 0 else 1) else 2) := rfl
      have HPP : Hid (parse s.data.toList = (if fourE a b c d = 0 then ⟨(numV a : Nat), (read b).1, (numV c : Nat), (read d).1⟩ else zero, fourE a b c d)) := HP
      generalize fourE a b c d = FE at HE HPP
      generalize numV a = NA at cA HE HPP
      generalize numB a = BA at cA HE
      generalize numV c = NC at cC HE HPP
      generalize numB c = BC at cC HE
      generalize (read b).1 = RB at cB HE HPP
      generalize (read b).2 = EB at cB HE
      generalize (read d).1 = RD at cD HE HPP
      generalize (read d).2 = ED at cD HE
      generalize str a = SA at m0 cA
      generalize str b = SB at m1 cB
      generalize str c = SC at m2 cC
      generalize str d = SD at m3 cD
      clear o2 hc2 z1 z2 z3 z4 z5 z6 hsz HP hw hlen hs
      go_wp2_with fail
      refine (cA _).mono ?_
      rintro e w3 ⟨rfl, rfl⟩
      go_wp2_with fail
      refine (cB _).mono ?_
      rintro e w3 ⟨rfl, rfl⟩
      go_wp2_with fail
      refine (cC _).mono ?_
      rintro e w3 ⟨rfl, rfl⟩
      go_wp2_with fail
      refine (cD _).mono ?_
      rintro e w3 ⟨rfl, rfl⟩
      clear cA cB cC cD m0 m1 m2 m3
      have r0 := HQ.out.cell (i := 0) (by omega)
      have r1 := HQ.out.cell (i := 1) (by omega)
      have r2 := HQ.out.cell (i := 2) (by omega)
      have r3 := HQ.out.cell (i := 3) (by omega)
      have f0 := HQ.out.frozen 0
      have f1 := HQ.out.frozen 1
      have f2 := HQ.out.frozen 2
      have f3 := HQ.out.frozen 3
      cases BA
      · -- no number
        have HF : Hid (parse s.data.toList = (zero, 2)) := by
          show _ = _
          have hF : FE = 2 := by rw [HE.out]; exact if_neg (fun q => by cases q.1)
          rw [HPP.out, hF]
          rfl
        clear HE HPP
        go_wp2_with fail
        try simp only [Exit.inBlock, Exit.then]
        refine bodyPost_ret (ret_head _ rfl (quad_set HQ.out 0 0 0 0)) rfl ⟨?_, set_below HB.out (Nat.le_refl _) _ _ _ _⟩
        rw [HF.out]
        rfl
      cases BC
      · -- no number
        have HF : Hid (parse s.data.toList = (zero, 2)) := by
          show _ = _
          have hF : FE = 2 := by rw [HE.out]; exact if_neg (fun q => by cases q.2.1)
          rw [HPP.out, hF]
          rfl
        clear HE HPP
        go_wp2_with fail
        try simp only [Exit.inBlock, Exit.then]
        refine bodyPost_ret (ret_head _ rfl (quad_set HQ.out 0 0 0 0)) rfl ⟨?_, set_below HB.out (Nat.le_refl _) _ _ _ _⟩
        rw [HF.out]
        rfl
      by_cases hb : EB = 2
      · have x1 : (((EB : Nat) : Int) == 2) = true := by rw [hb]; rfl
        have HF : Hid (parse s.data.toList = (zero, 2)) := by
          show _ = _
          have hF : FE = 2 := by rw [HE.out]; exact if_neg (fun q => q.2.2.1 hb)
          rw [HPP.out, hF]
          rfl
        clear HE HPP
        go_wp2_with fail
        try simp only [Exit.inBlock, Exit.then]
        refine bodyPost_ret (ret_head _ rfl (quad_set HQ.out 0 0 0 0)) rfl ⟨?_, set_below HB.out (Nat.le_refl _) _ _ _ _⟩
        rw [HF.out]
        rfl
      have x1 : (((EB : Nat) : Int) == 2) = false := by rw [beq_eq_false_iff_ne]; omega
      by_cases hd : ED = 2
      · have x2 : (((ED : Nat) : Int) == 2) = true := by rw [hd]; rfl
        have HF : Hid (parse s.data.toList = (zero, 2)) := by
          show _ = _
          have hF : FE = 2 := by rw [HE.out]; exact if_neg (fun q => q.2.2.2 hd)
          rw [HPP.out, hF]
          rfl
        clear HE HPP
        go_wp2_with fail
        try simp only [Exit.inBlock, Exit.then]
        refine bodyPost_ret (ret_head _ rfl (quad_set HQ.out 0 0 0 0)) rfl ⟨?_, set_below HB.out (Nat.le_refl _) _ _ _ _⟩
        rw [HF.out]
        rfl
      have x2 : (((ED : Nat) : Int) == 2) = false := by rw [beq_eq_false_iff_ne]; omega
      have HE2 : Hid (FE = if EB = 0 ∧ ED = 0 ∧ ok ⟨(NA : Int), RB, (NC : Int), RD⟩ = true then 0 else 1) := by
        show _ = _
        rw [HE.out]
        exact if_pos ⟨rfl, rfl, hb, hd⟩
      clear HE hb hd
      have HQ3 : Hid ((w3.alloc (.cells #[.int .i64 (NA : Int), .int .i64 RB, .int .i64 (NC : Int), .int .i64 RD] 59)).rowIs w.heap.size 59 4 (quad 0 0 0 0)) := HQ.out.alloc _
      have HB3 : Hid (Below w.heap.size w (w3.alloc (.cells #[.int .i64 (NA : Int), .int .i64 RB, .int .i64 (NC : Int), .int .i64 RD] 59))) := HB.out.alloc HB.out.size _
      have n0 : (w3.alloc (.cells #[.int .i64 (NA : Int), .int .i64 RB, .int .i64 (NC : Int), .int .i64 RD] 59)).cell? ⟨w3.heap.size, 0, none⟩ = some (.int .i64 (NA : Int)) := by simp
      have n1 : (w3.alloc (.cells #[.int .i64 (NA : Int), .int .i64 RB, .int .i64 (NC : Int), .int .i64 RD] 59)).cell? ⟨w3.heap.size, 1, none⟩ = some (.int .i64 RB) := by simp
      have n2 : (w3.alloc (.cells #[.int .i64 (NA : Int), .int .i64 RB, .int .i64 (NC : Int), .int .i64 RD] 59)).cell? ⟨w3.heap.size, 2, none⟩ = some (.int .i64 (NC : Int)) := by simp
      have n3 : (w3.alloc (.cells #[.int .i64 (NA : Int), .int .i64 RB, .int .i64 (NC : Int), .int .i64 RD] 59)).cell? ⟨w3.heap.size, 3, none⟩ = some (.int .i64 RD) := by simp
      go_upto_region 11 with fail
      generalize w3.alloc (.cells #[.int .i64 (NA : Int), .int .i64 RB, .int .i64 (NC : Int), .int .i64 RD] 59) = w4 at HQ3 HB3 n0 n1 n2 n3 ⊢
      clear HQ HB r0 r1 r2 r3 f0 f1 f2 f3
      have r0 := HQ3.out.cell (i := 0) (by omega)
      have r1 := HQ3.out.cell (i := 1) (by omega)
      have r2 := HQ3.out.cell (i := 2) (by omega)
      have r3 := HQ3.out.cell (i := 3) (by omega)
      have f0 := HQ3.out.frozen 0
      have f1 := HQ3.out.frozen 1
      have f2 := HQ3.out.frozen 2
      have f3 := HQ3.out.frozen 3
      by_cases hb : EB = 0
      rotate_left
      · have x3 : (((EB : Nat) : Int) != 0) = true := by rw [bne_iff_ne]; omega
        have HF : Hid (parse s.data.toList = (zero, 1)) := by
          show _ = _
          have hF : FE = 1 := by rw [HE2.out]; exact if_neg (fun q => hb q.1)
          rw [HPP.out, hF]
          rfl
        clear HE2 HPP
        go_wp2_with fail
        try simp only [Exit.inBlock, Exit.then]
        refine bodyPost_ret (ret_head _ rfl (quad_set HQ3.out 0 0 0 0)) rfl ⟨?_, set_below HB3.out (Nat.le_refl _) _ _ _ _⟩
        rw [HF.out]
        rfl
      have x3 : (((EB : Nat) : Int) != 0) = false := by rw [hb]; rfl
      by_cases hd : ED = 0
      rotate_left
      · have x4 : (((ED : Nat) : Int) != 0) = true := by rw [bne_iff_ne]; omega
        have HF : Hid (parse s.data.toList = (zero, 1)) := by
          show _ = _
          have hF : FE = 1 := by rw [HE2.out]; exact if_neg (fun q => hd q.2.1)
          rw [HPP.out, hF]
          rfl
        clear HE2 HPP
        go_wp2_with fail
        try simp only [Exit.inBlock, Exit.then]
        refine bodyPost_ret (ret_head _ rfl (quad_set HQ3.out 0 0 0 0)) rfl ⟨?_, set_below HB3.out (Nat.le_refl _) _ _ _ _⟩
        rw [HF.out]
        rfl
      have x4 : (((ED : Nat) : Int) != 0) = false := by rw [hd]; rfl
      have cH := WalkHeadRef.head_any ⟨(NA : Int), RB, (NC : Int), RD⟩ w4
      unfold hv at cH
      simp only at cH
      have HHE : Hid (headE ⟨(NA : Int), RB, (NC : Int), RD⟩ = 0 ↔ ok ⟨(NA : Int), RB, (NC : Int), RD⟩ = true) := Heads.headE_zero
      generalize headE ⟨(NA : Int), RB, (NC : Int), RD⟩ = E at cH HHE
      go_wp2_with fail
      refine cH.mono ?_
      rintro e w5 ⟨rfl, b5⟩
      have HQ5 : Hid (w5.rowIs w.heap.size 59 4 (quad 0 0 0 0)) := HQ3.out.of_block (b5.block _ HQ3.out.lt)
      have HB5 : Hid (Below w.heap.size w w5) := bt HB3.out b5
      replace n0 := Lists.cell_below b5 n0
      replace n1 := Lists.cell_below b5 n1
      replace n2 := Lists.cell_below b5 n2
      replace n3 := Lists.cell_below b5 n3
      clear cH b5 HQ3 HB3 r0 r1 r2 r3 f0 f1 f2 f3
      have r0 := HQ5.out.cell (i := 0) (by omega)
      have r1 := HQ5.out.cell (i := 1) (by omega)
      have r2 := HQ5.out.cell (i := 2) (by omega)
      have r3 := HQ5.out.cell (i := 3) (by omega)
      have f0 := HQ5.out.frozen 0
      have f1 := HQ5.out.frozen 1
      have f2 := HQ5.out.frozen 2
      have f3 := HQ5.out.frozen 3
      by_cases h0 : E = 0
      · have x5 : (((E : Nat) : Int) != 0) = false := by rw [h0]; rfl
        have HF : Hid (parse s.data.toList = (⟨(NA : Int), RB, (NC : Int), RD⟩, 0)) := by
          show _ = _
          have hF : FE = 0 := by rw [HE2.out]; exact if_pos ⟨hb, hd, HHE.out.1 h0⟩
          rw [HPP.out, hF]
          rfl
        clear HE2 HPP HHE h0
        go_wp2_with fail
        try simp only [Exit.inBlock, Exit.then]
        refine bodyPost_ret (ret_head _ rfl (quad_set HQ5.out (NA : Int) RB (NC : Int) RD)) rfl ⟨?_, set_below HB5.out (Nat.le_refl _) _ _ _ _⟩
        rw [HF.out]
        rfl
      · have x5 : (((E : Nat) : Int) != 0) = true := by rw [bne_iff_ne]; omega
        have HF : Hid (parse s.data.toList = (zero, 1)) := by
          show _ = _
          have hF : FE = 1 := by rw [HE2.out]; exact if_neg (fun q => h0 (HHE.out.2 q.2.2))
          rw [HPP.out, hF]
          rfl
        clear HE2 HPP HHE h0
        go_wp2_with fail
        try simp only [Exit.inBlock, Exit.then]
        refine bodyPost_ret (ret_head _ rfl (quad_set HQ5.out 0 0 0 0)) rfl ⟨?_, set_below HB5.out (Nat.le_refl _) _ _ _ _⟩
        rw [HF.out]
        rfl
  · have HP : Hid (parse s.data.toList = (zero, 2)) := parse_not h4
    obtain ⟨a2, c2, rfl, _⟩ := Keeps.owns_row o2
    generalize (words 32 s.data.toList).length = N at h4
    have hx : ((N : Int) != 4) = true := by rw [bne_iff_ne]; omega
    have r0 := HQ.out.cell (i := 0) (by omega)
    have r1 := HQ.out.cell (i := 1) (by omega)
    have r2 := HQ.out.cell (i := 2) (by omega)
    have r3 := HQ.out.cell (i := 3) (by omega)
    have f0 := HQ.out.frozen 0
    have f1 := HQ.out.frozen 1
    have f2 := HQ.out.frozen 2
    have f3 := HQ.out.frozen 3
    clear o2 h4
    go_wp2_with fail
    try simp only [Exit.inBlock, Exit.then]
    refine bodyPost_ret (ret_head _ rfl (quad_set HQ.out 0 0 0 0)) rfl ⟨?_, set_below HB.out (Nat.le_refl _) _ _ _ _⟩
    rw [HP.out]
    rfl

end Go.Proofs.YtibmgmadoaencadDoor.WalkReadRef
