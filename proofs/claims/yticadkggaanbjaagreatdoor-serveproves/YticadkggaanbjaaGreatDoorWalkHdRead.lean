/-
  A text as a head: the program's Parse.
-/
import Derived.Test.YticadkggaanbjaaGreatDoorWalkHdParse
import Derived.Test.YticadkggaanbjaaGreatDoorWalkHdSplit
namespace Go.Proofs.YticadkggaanbjaaGreatDoor.WalkHdRead
open Go.RowKit
open Lists (bt)
open Errs (errv errv0 errv_pos)
open Heads (Head ok headE parse zero)
open HeadVals (hv aggH sizeH At)
open Nums (str text valid read)
open Decimals (dec number words)
open WalkHdLib (Tabs)
open WalkReadRef (quad quad_new quad_set set_below fourE parse_four parse_not)
open WalkNumberRef (numV numB)
open WalkHdParse (numE synE)
open WalkHdSign (at_quad)

theorem ret_parse {w : World} {g : Nat} {a b c d : Int} (tmps : Array Value) (hp : tmps.getD 2 undef = .pointer (some ⟨g, 0, none⟩)) (h : w.rowIs g 31 4 (quad a b c d)) :
    (results Tryz.f12 tmps).run Tryz.prog w = .ok (.tuple #[hv ⟨a, b, c, d⟩, tmps.getD 3 undef]) w := by
  have hl := run_loadVar_mid (P := Tryz.prog) w g 0 31 [.int .i64 a, .int .i64 b, .int .i64 c, .int .i64 d] _ (fun j v hv => by
    match j, hv with
    | 0, hv => simp at hv; subst hv; simpa [quad] using h.cell (i := 0) (by omega)
    | 1, hv => simp at hv; subst hv; simpa [quad] using h.cell (i := 1) (by omega)
    | 2, hv => simp at hv; subst hv; simpa [quad] using h.cell (i := 2) (by omega)
    | 3, hv => simp at hv; subst hv; simpa [quad] using h.cell (i := 3) (by omega)) Tryz.underlying31 rfl (by kernel_rfl)
  rw [results_cell_tmp rfl, hp]
  simp [asAddr, hl, Result.andThen, hv]

/-- the faults of four words -/
def faults (x0 x1 x2 x3 : Nat) : Nat → Nat := fun j => if j = 0 then x0 else if j = 1 then x1 else if j = 2 then x2 else x3
theorem faults_two {x0 x1 x2 x3 : Nat} : (∃ j, j < 4 ∧ faults x0 x1 x2 x3 j = 2) ↔ x0 = 2 ∨ x1 = 2 ∨ x2 = 2 ∨ x3 = 2 := by
  constructor
  · rintro ⟨j, hj, h⟩
    match j, hj, h with
    | 0, _, h => exact .inl h
    | 1, _, h => exact .inr (.inl h)
    | 2, _, h => exact .inr (.inr (.inl h))
    | 3, _, h => exact .inr (.inr (.inr h))
  · rintro (h | h | h | h)
    · exact ⟨0, by omega, h⟩
    · exact ⟨1, by omega, h⟩
    · exact ⟨2, by omega, h⟩
    · exact ⟨3, by omega, h⟩
theorem faults_one {x0 x1 x2 x3 : Nat} : (∃ j, j < 4 ∧ faults x0 x1 x2 x3 j = 1) ↔ x0 = 1 ∨ x1 = 1 ∨ x2 = 1 ∨ x3 = 1 := by
  constructor
  · rintro ⟨j, hj, h⟩
    match j, hj, h with
    | 0, _, h => exact .inl h
    | 1, _, h => exact .inr (.inl h)
    | 2, _, h => exact .inr (.inr (.inl h))
    | 3, _, h => exact .inr (.inr (.inr h))
  · rintro (h | h | h | h)
    · exact ⟨0, by omega, h⟩
    · exact ⟨1, by omega, h⟩
    · exact ⟨2, by omega, h⟩
    · exact ⟨3, by omega, h⟩
theorem numE_zero {l : List UInt8} : numE l = 0 ↔ numB l = true := by
  unfold numE
  split
  · exact ⟨fun _ => by assumption, fun _ => rfl⟩
  · exact ⟨fun h => (by cases h), fun h => absurd h (by assumption)⟩
theorem numE_two {l : List UInt8} : numE l = 2 ↔ ¬ numB l = true := by
  unfold numE
  split
  · exact ⟨fun h => (by cases h), fun h => absurd (by assumption) h⟩
  · exact ⟨fun _ => by assumption, fun _ => rfl⟩
theorem numE_one (l : List UInt8) : numE l ≠ 1 := by unfold numE; split <;> decide
/-- the fault of the words, and then of the head -/
theorem fault_is (a b c d : List UInt8) : fourE a b c d = if synE (faults (numE a) (read b).2 (numE c) (read d).2) 4 = 0 then headE ⟨(numV a : Nat), (read b).1, (numV c : Nat), (read d).1⟩ else synE (faults (numE a) (read b).2 (numE c) (read d).2) 4 := by
  have r1 := WalkHdParse.read_le b
  have r2 := WalkHdParse.read_le d
  unfold synE
  simp only [faults_two, faults_one]
  unfold fourE
  by_cases h2 : numE a = 2 ∨ (read b).2 = 2 ∨ numE c = 2 ∨ (read d).2 = 2
  · rw [if_neg, if_pos h2, if_neg (by decide)]
    rintro ⟨q1, q2, q3, q4⟩
    rcases h2 with h | h | h | h
    · exact numE_two.1 h q1
    · exact q3 h
    · exact numE_two.1 h q2
    · exact q4 h
  · have q : numB a = true ∧ numB c = true ∧ (read b).2 ≠ 2 ∧ (read d).2 ≠ 2 := by
      refine ⟨?_, ?_, fun h => h2 (.inr (.inl h)), fun h => h2 (.inr (.inr (.inr h)))⟩
      · exact Decidable.byContradiction fun h => h2 (.inl (numE_two.2 h))
      · exact Decidable.byContradiction fun h => h2 (.inr (.inr (.inl (numE_two.2 h))))
    rw [if_pos q, if_neg h2]
    by_cases h1 : numE a = 1 ∨ (read b).2 = 1 ∨ numE c = 1 ∨ (read d).2 = 1
    · rw [if_pos h1]
      rw [if_neg (show ¬ (1 : Nat) = 0 by decide)]
      rw [if_neg]
      rintro ⟨q1, q2, _⟩
      rcases h1 with h | h | h | h
      · exact numE_one a h
      · omega
      · exact numE_one c h
      · omega
    · rw [if_neg h1, if_pos rfl]
      have z1 : (read b).2 = 0 := by
        have := q.2.2.1
        have : (read b).2 ≠ 1 := fun h => h1 (.inr (.inl h))
        omega
      have z2 : (read d).2 = 0 := by
        have := q.2.2.2
        have : (read d).2 ≠ 1 := fun h => h1 (.inr (.inr (.inr h)))
        omega
      unfold headE
      by_cases ho : ok ⟨(numV a : Nat), (read b).1, (numV c : Nat), (read d).1⟩ = true
      · rw [if_pos ⟨z1, z2, ho⟩, if_pos ho]
      · rw [if_neg (fun q => ho q.2.2), if_neg ho]

theorem errv_or (x : Nat) : errv x = .nilIface ∨ errv x = .iface 99 (.int .i64 x) := by
  by_cases h : x = 0
  · subst h; exact .inl rfl
  · exact .inr (errv_pos x h)
theorem build_errs (x0 x1 x2 x3 : Nat) (w : World) : (Instr.buildSlice 167 4 #[(0, errv x0), (1, errv x1), (2, errv x2), (3, errv x3)]).run Tryz.prog w = .ok (.slice (some ⟨w.heap.size, 0, none⟩) 4 4) (w.alloc (.cells #[errv x0, errv x1, errv x2, errv x3] 26)) := by
  rcases errv_or x0 with h0 | h0 <;> rcases errv_or x1 with h1 | h1 <;> rcases errv_or x2 with h2 | h2 <;> rcases errv_or x3 with h3 | h3 <;> (rw [h0, h1, h2, h3]; kernel_rfl)

theorem wpList_errs {ops : Array Oper} {rest : List Oper} {o : Oper} {a : Act} {w : World} {Q : Exit → Act → World → Prop} (hg : o.guard = none) (p0 p1 p2 p3 : Operand) (ho : o.op = .buildSlice 167 4 #[(0, p0), (1, p1), (2, p2), (3, p3)])
    (x0 x1 x2 x3 : Nat) (e0 : a.eval p0 = errv x0) (e1 : a.eval p1 = errv x1) (e2 : a.eval p2 = errv x2) (e3 : a.eval p3 = errv x3)
    (h : wpList Tryz.prog ops Q rest (a.put o.dst (.slice (some ⟨w.heap.size, 0, none⟩) 4 4)) (w.alloc (.cells #[errv x0, errv x1, errv x2, errv x3] 26))) : wpList Tryz.prog ops Q (o :: rest) a w := by
  refine wpList_plain hg fun K hK => ?_
  have H : (Instr.buildSlice 167 4 ((#[(0, p0), (1, p1), (2, p2), (3, p3)] : Array (Nat × Operand)).map fun (i, x) => (i, a.eval x))).run Tryz.prog w = .ok (.slice (some ⟨w.heap.size, 0, none⟩) 4 4) (w.alloc (.cells #[errv x0, errv x1, errv x2, errv x3] 26)) := by
    have e : ((#[(0, p0), (1, p1), (2, p2), (3, p3)] : Array (Nat × Operand)).map fun (i, x) => (i, a.eval x)) = #[(0, errv x0), (1, errv x1), (2, errv x2), (3, errv x3)] := by
      rw [← e0, ← e1, ← e2, ← e3]
      simp
    rw [e]
    exact build_errs x0 x1 x2 x3 w
  unfold Oper.wp execOp
  simp only [ho, Sem.run_bind, H, Result.andThen_ok]
  exact hK _ _ h

theorem words_small {l a b c d : List UInt8} (h : words 32 l = [a, b, c, d]) : a.length ≤ l.length ∧ c.length ≤ l.length := by
  have j := Decimals.joined_words 32 l
  rw [h] at j
  simp only [Decimals.joined] at j
  have := congrArg List.length j
  simp only [List.length_append, List.length_cons] at this
  omega

set_option maxHeartbeats 8000000 in
theorem parse_any (s : ByteArray) (w : World) (hs : s.size ≤ 140737488351232) :
    Calls Tryz.prog 12 #[.string s] w fun e w' => e = .returned (.tuple #[hv (parse s.data.toList).1, errv (parse s.data.toList).2]) ∧ Below w.heap.size w w' := by
  have a42 := aggH
  have z42 := sizeH
  have b0 : Below w.heap.size w (w.alloc (.cells #[.int .i64 0, .int .i64 0, .int .i64 0, .int .i64 0] 31)) := (Below.refl _ _).alloc (Nat.le_refl _) _
  have hz := quad_new w 0 0 0 0
  by_cases h4 : (words 32 s.data.toList).length = 4
  rotate_left
  · have HP : Hid (parse s.data.toList = (zero, 2)) := parse_not h4
    have cS := WalkHdLib.split_not s h4 hs (w.alloc (.cells #[.int .i64 0, .int .i64 0, .int .i64 0, .int .i64 0] 31))
    clear h4 hs
    go_enter Tryz.func12, Tryz.ntmps12
    go_upto_region 1 with fail
    generalize w.alloc (.cells #[.int .i64 0, .int .i64 0, .int .i64 0, .int .i64 0] 31) = w0 at b0 hz cS ⊢
    go_wp2_with fail
    refine cS.mono ?_
    rintro e w1 ⟨n, cap, hn, rfl, b1⟩
    have hd : ((n : Int) != 4) = true := by rw [bne_iff_ne]; omega
    replace hz := hz.of_block (b1.block _ hz.lt)
    have HB : Hid (Below w.heap.size w w1) := bt b0 b1
    have HQ : Hid (w1.rowIs w.heap.size 31 4 (quad 0 0 0 0)) := hz
    obtain ⟨q0, q1, q2, q3⟩ := at_quad hz
    simp only at q0 q1 q2 q3
    have f0 := hz.frozen 0
    have f1 := hz.frozen 1
    have f2 := hz.frozen 2
    have f3 := hz.frozen 3
    clear hz b0 b1 cS hn
    go_wp2_with fail
    try simp only [Exit.inBlock, Exit.then]
    refine bodyPost_ret (ret_parse _ rfl (quad_set HQ.out 0 0 0 0)) rfl ⟨?_, set_below HB.out (Nat.le_refl _) _ _ _ _⟩
    rw [HP.out]
    rfl
  obtain ⟨a, b, c, d, hw⟩ : ∃ a b c d, words 32 s.data.toList = [a, b, c, d] := by
    match hx : words 32 s.data.toList, h4 with
    | [a, b, c, d], _ => exact ⟨a, b, c, d, rfl⟩
  have cS := WalkHdLib.split_four s a b c d hw hs (w.alloc (.cells #[.int .i64 0, .int .i64 0, .int .i64 0, .int .i64 0] 31))
  have HP : Hid (parse s.data.toList = (if fourE a b c d = 0 then ⟨(numV a : Nat), (read b).1, (numV c : Nat), (read d).1⟩ else zero, fourE a b c d)) := parse_four hw
  have HF : Hid (fourE a b c d = _) := fault_is a b c d
  have hsl : s.data.toList.length = s.size := Array.length_toList
  obtain ⟨ha, hc⟩ := words_small hw
  have cA := fun w1 => WalkHdParse.decimal_any (str a) w1 (by rw [Nums.str_size]; unfold maxLen; omega)
  have cB := fun w1 => WalkHdParse.mix_any (str b) w1
  have cC := fun w1 => WalkHdParse.decimal_any (str c) w1 (by rw [Nums.str_size]; unfold maxLen; omega)
  have cD := fun w1 => WalkHdParse.mix_any (str d) w1
  rw [Nums.str_data] at cA cB cC cD
  have la : numE a ≤ 2 := WalkHdParse.numE_le a
  have lb := WalkHdParse.read_le b
  have lc : numE c ≤ 2 := WalkHdParse.numE_le c
  have ld := WalkHdParse.read_le d
  clear h4 hs hw hsl ha hc
  generalize fourE a b c d = F at HP HF
  have HK : Hid (∀ w1, Calls Tryz.prog 67 #[hv ⟨(numV a : Nat), (read b).1, (numV c : Nat), (read d).1⟩] w1 fun e w' => e = .returned (errv (headE ⟨(numV a : Nat), (read b).1, (numV c : Nat), (read d).1⟩)) ∧ Below w1.heap.size w1 w') := fun w1 => WalkHdOne.check_any _ w1
  generalize headE ⟨(numV a : Nat), (read b).1, (numV c : Nat), (read d).1⟩ = G at HF HK
  unfold hv at HK
  simp only at HK
  generalize ((numV a : Nat) : Int) = VA at HP cA HK
  generalize ((numV c : Nat) : Int) = VC at HP cC HK
  generalize (read b).1 = VB at HP cB HK
  generalize (read d).1 = VD at HP cD HK
  generalize numE a = EA at HF cA la
  generalize numE c = EC at HF cC lc
  generalize (read b).2 = EB at HF cB lb
  generalize (read d).2 = ED at HF cD ld
  generalize str a = SA at cS cA
  generalize str b = SB at cS cB
  generalize str c = SC at cS cC
  generalize str d = SD at cS cD
  have HY : Hid (∀ (g : Nat) (w1 : World), (∀ j, j < 4 → w1.cell? ⟨g, j, none⟩ = some (errv (faults EA EB EC ED j))) → Calls Tryz.prog 66 #[.slice (some ⟨g, 0, none⟩) 4 4] w1 fun e w' => e = .returned (errv (synE (faults EA EB EC ED) 4)) ∧ w' = w1) := fun g w1 h1 => WalkHdParse.syntax_any _ (fun j hj => by
    match j, hj with
    | 0, _ => exact la
    | 1, _ => exact lb
    | 2, _ => exact lc
    | 3, _ => exact ld) g w1 h1
  generalize synE (faults EA EB EC ED) 4 = S at HF HY
  clear la lb lc ld
  go_enter Tryz.func12, Tryz.ntmps12
  go_upto_region 1 with fail
  generalize w.alloc (.cells #[.int .i64 0, .int .i64 0, .int .i64 0, .int .i64 0] 31) = w0 at b0 hz cS ⊢
  go_wp2_with fail
  refine cS.mono ?_
  rintro e w1 ⟨cap, hcap, rfl, p0, p1, p2, p3, b1⟩
  replace hz := hz.of_block (b1.block _ hz.lt)
  replace b0 := bt b0 b1
  clear cS b1
  generalize w0.heap.size = g0 at p0 p1 p2 p3 ⊢
  go_wp2_with fail
  refine (cA _).mono ?_
  rintro e w2 ⟨rfl, rfl⟩
  go_wp2_with fail
  refine (cB _).mono ?_
  rintro e w2 ⟨rfl, rfl⟩
  go_wp2_with fail
  refine (cC _).mono ?_
  rintro e w2 ⟨rfl, rfl⟩
  go_wp2_with fail
  refine (cD _).mono ?_
  rintro e w2 ⟨rfl, rfl⟩
  clear cA cB cC cD p0 p1 p2 p3
  go_wp2_with (refine wpList_errs rfl (.tmp 51) (.tmp 52) (.tmp 53) (.tmp 54) rfl EA EB EC ED rfl rfl rfl rfl ?_)
  have b2 := b0.alloc b0.size (.cells #[errv EA, errv EB, errv EC, errv ED] 26)
  replace hz := hz.alloc (.cells #[errv EA, errv EB, errv EC, errv ED] 26)
  have cY := HY.out w2.heap.size (w2.alloc (.cells #[errv EA, errv EB, errv EC, errv ED] 26)) (fun j hj => by
    match j, hj with
    | 0, _ | 1, _ | 2, _ | 3, _ => simp [faults])
  clear HY b0
  generalize w2.heap.size = g1 at cY ⊢
  generalize w2.alloc (.cells #[errv EA, errv EB, errv EC, errv ED] 26) = w3 at cY b2 hz ⊢
  refine cY.mono ?_
  rintro e w4 ⟨rfl, rfl⟩
  clear cY
  by_cases h0 : S = 0
  rotate_left
  · have HX : Hid (F = S ∧ F ≠ 0) := by
      have e := HF.out
      rw [if_neg h0] at e
      exact ⟨e, by rw [e]; exact h0⟩
    have HV : Hid (errv S = .iface 99 (.int .i64 S)) := errv_pos _ h0
    rw [HV.out]
    have HB : Hid (Below w.heap.size w _) := b2
    have HQ : Hid (World.rowIs _ w.heap.size 31 4 (quad 0 0 0 0)) := hz
    obtain ⟨q0, q1, q2, q3⟩ := at_quad hz
    simp only at q0 q1 q2 q3
    have f0 := hz.frozen 0
    have f1 := hz.frozen 1
    have f2 := hz.frozen 2
    have f3 := hz.frozen 3
    clear hz b2 h0 HF HK
    go_wp2_with fail
    try simp only [Exit.inBlock, Exit.then]
    refine bodyPost_ret (ret_parse _ rfl (quad_set HQ.out 0 0 0 0)) rfl ⟨?_, set_below HB.out (Nat.le_refl _) _ _ _ _⟩
    rw [HP.out, if_neg HX.out.2, HX.out.1, HV.out]
    rfl
  have HX : Hid (F = G) := by
    have e := HF.out
    rw [if_pos h0] at e
    exact e
  rw [h0, errv0]
  clear h0 HF
  go_upto_region 12 with fail
  have b3 := b2.alloc b2.size (.cells #[.int .i64 VA, .int .i64 VB, .int .i64 VC, .int .i64 VD] 31)
  replace hz := hz.alloc (.cells #[.int .i64 VA, .int .i64 VB, .int .i64 VC, .int .i64 VD] 31)
  have hh := At.new w4 VA VB VC VD
  generalize w4.heap.size = g2 at hh ⊢
  generalize w4.alloc (.cells #[.int .i64 VA, .int .i64 VB, .int .i64 VC, .int .i64 VD] 31) = w5 at b3 hz hh ⊢
  clear b2
  obtain ⟨p0, p1, p2, p3⟩ := hh
  simp only at p0 p1 p2 p3
  have hh : At w5 g2 ⟨VA, VB, VC, VD⟩ := ⟨p0, p1, p2, p3⟩
  go_wp2_with fail
  refine (HK.out _).mono ?_
  rintro e w6 ⟨rfl, b6⟩
  replace hz := hz.of_block (b6.block _ hz.lt)
  obtain ⟨r0, r1, r2, r3⟩ := hh.below b6
  simp only at r0 r1 r2 r3
  have HB : Hid (Below w.heap.size w w6) := bt b3 b6
  have HQ : Hid (w6.rowIs w.heap.size 31 4 (quad 0 0 0 0)) := hz
  obtain ⟨q0, q1, q2, q3⟩ := at_quad hz
  simp only at q0 q1 q2 q3
  have f0 := hz.frozen 0
  have f1 := hz.frozen 1
  have f2 := hz.frozen 2
  have f3 := hz.frozen 3
  clear hz b3 b6 HK hh p0 p1 p2 p3
  by_cases hG : G = 0
  · have HW : Hid (F = 0) := by show F = 0; rw [HX.out]; exact hG
    rw [hG, errv0]
    clear hG HX
    go_wp2_with fail
    try simp only [Exit.inBlock, Exit.then]
    refine bodyPost_ret (ret_parse _ rfl (quad_set HQ.out VA VB VC VD)) rfl ⟨?_, set_below HB.out (Nat.le_refl _) _ _ _ _⟩
    rw [HP.out, HW.out]
    rfl
  · have HW : Hid (F ≠ 0 ∧ errv F = .iface 99 (.int .i64 G)) := by
      have e := HX.out
      refine ⟨by rw [e]; exact hG, ?_⟩
      rw [e]
      exact errv_pos _ hG
    rw [errv_pos _ hG]
    clear hG HX
    go_wp2_with fail
    try simp only [Exit.inBlock, Exit.then]
    refine bodyPost_ret (ret_parse _ rfl (quad_set HQ.out 0 0 0 0)) rfl ⟨?_, set_below HB.out (Nat.le_refl _) _ _ _ _⟩
    rw [HP.out, if_neg HW.out.1, HW.out.2]
    rfl

end Go.Proofs.YticadkggaanbjaaGreatDoor.WalkHdRead
