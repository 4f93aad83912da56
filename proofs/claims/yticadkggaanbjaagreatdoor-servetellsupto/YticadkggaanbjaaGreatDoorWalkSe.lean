/-
  What the program's serve.sumUp and serve.Head return, for every list of entries, key and time.
-/
import Derived.Test.YticadkggaanbjaaGreatDoorSePlain
import Derived.Test.YticadkggaanbjaaGreatDoorEntAll
import Derived.Test.YticadkggaanbjaaGreatDoorTreeRun
import Derived.Test.YticadkggaanbjaaGreatDoorHdRun
import Derived.Deep.OwnRows
import Derived.Laws.ResultCell
namespace Go.Proofs.YticadkggaanbjaaGreatDoor.WalkSe
open Go.RowKit
open Lists (Row ints bt)
open Keeps (owns_row)
open Wides (Wide)
open EntRows (cells)
open Errs (errv errv0 errv_pos)
open Entries (Entry entsE leafsOf)
open Heads (Head zero isKey ok)
open HeadVals (hv aggH sizeH)
open Mirrors (rootE)
open Answers (logE logH bare)
open WalkReadRef (quad quad_new quad_set set_below)
open WalkHdSign (at_quad)

/-- what it asks of the library's own variables -/
abbrev Asks (w : World) : Prop := WalkHdLib.Tabs w
theorem Asks.below {w w' : World} (h : Asks w) (b : Below w.heap.size w w') : Asks w' := WalkHdLib.Tabs.below h b
theorem leafs_valid {l : List Entry} : ∀ x ∈ leafsOf l, Nums.valid x = true := by
  intro x hx
  obtain ⟨e, _, rfl⟩ := List.mem_map.1 hx
  have := Sums.sum_bd (0 :: Entries.bytes e)
  exact Nums.valid_iff.2 ⟨this.1, this.2⟩
theorem leafs_fine {l : List Entry} (hf : entsE l = 0) : Trees.leafsE (leafsOf l) = 0 := by
  unfold Trees.leafsE
  rw [if_neg (by have := (Entries.ents_ok hf).1; simp only [leafsOf, List.length_map]; omega)]
  exact if_pos (List.all_eq_true.2 leafs_valid)
theorem sign_is {l : List Entry} {key now : Int} (hf : entsE l = 0) : Heads.signV (bare l now) key = logH l key now ∧ Heads.signE (bare l now) key = logE l key now := by
  have hE : Heads.signE (bare l now) key = logE l key now := by
    unfold Heads.signE logE
    rw [if_pos hf]
    rfl
  refine ⟨?_, hE⟩
  unfold Heads.signV logH
  rw [hE]
  rfl

/-- the leafs, where all is in order -/
def logL (l : List Entry) (key now : Int) : List Int := if logE l key now = 0 then leafsOf l else []

theorem cells_of {w : World} {g : Nat} {a b c d : Int} (h : w.rowIs g 31 4 (quad a b c d)) : (loadVar 31 ⟨g, 0, none⟩).run Tryz.prog w = .ok (hv ⟨a, b, c, d⟩) w :=
  run_loadVar_mid (P := Tryz.prog) w g 0 31 [.int .i64 a, .int .i64 b, .int .i64 c, .int .i64 d] _ (fun j v hv => by
    match j, hv with
    | 0, hv => simp at hv; subst hv; simpa [quad] using h.cell (i := 0) (by omega)
    | 1, hv => simp at hv; subst hv; simpa [quad] using h.cell (i := 1) (by omega)
    | 2, hv => simp at hv; subst hv; simpa [quad] using h.cell (i := 2) (by omega)
    | 3, hv => simp at hv; subst hv; simpa [quad] using h.cell (i := 3) (by omega)) Tryz.underlying31 rfl (by kernel_rfl)
theorem ret_head {w : World} {g : Nat} {a b c d : Int} (tmps : Array Value) (hp : tmps.getD 6 undef = .pointer (some ⟨g, 0, none⟩)) (h : w.rowIs g 31 4 (quad a b c d)) :
    (results Tryz.f11 tmps).run Tryz.prog w = .ok (.tuple #[hv ⟨a, b, c, d⟩, tmps.getD 7 undef]) w := by
  rw [results_cell_tmp rfl, hp]
  simp [asAddr, cells_of h, Result.andThen, hv]
theorem results_three {fn : Func} {p u v : Tmp} {ty : TypeId} (h : fn.results = #[.tmp v, .cell p ty, .tmp u]) (tmps : Array Value) (P : Program) (w : World) :
    (results fn tmps).run P w =
      ((asAddr (tmps.getD p undef)).run P w).andThen fun a w₁ => ((loadVar ty a).run P w₁).andThen fun x w₂ => .ok (.tuple #[tmps.getD v undef, x, tmps.getD u undef]) w₂ := by
  simp only [results, h]
  simp [Sem.run_bind, Result.andThen]
theorem ret_sum {w : World} {g : Nat} {a b c d : Int} (tmps : Array Value) (hp : tmps.getD 7 undef = .pointer (some ⟨g, 0, none⟩)) (h : w.rowIs g 31 4 (quad a b c d)) :
    (results Tryz.f50 tmps).run Tryz.prog w = .ok (.tuple #[tmps.getD 6 undef, hv ⟨a, b, c, d⟩, tmps.getD 8 undef]) w := by
  rw [results_three rfl, hp]
  simp [asAddr, cells_of h, Result.andThen, hv]

/-- four cells below what is owned are set: it stays -/
theorem own_set {w : World} {base g : Nat} {e : TypeId} {v : Value} {n : Nat} {xs : List Value} (h : w.ownsRow base e 1 v n xs) (hg : g < base) (x0 x1 x2 x3 : Value) :
    ((((w.setCell ⟨g, 0, none⟩ x0).setCell ⟨g, 1, none⟩ x1).setCell ⟨g, 2, none⟩ x2).setCell ⟨g, 3, none⟩ x3).ownsRow base e 1 v n xs := by
  have k := (((Keeps.Kept.refl (fun i => i = g) w).setCell (p := ⟨g, 0, none⟩) (.inl rfl) x0).setCell (p := ⟨g, 1, none⟩) (.inl rfl) x1).setCell (p := ⟨g, 2, none⟩) (.inl rfl) x2 |>.setCell (p := ⟨g, 3, none⟩) (.inl rfl) x3
  refine Keeps.owns_kept h k (fun i hi hs => ?_)
  rcases h.2 with ⟨q, _⟩ | ⟨b, cap, cur, q, hb, _⟩
  · rw [q] at hi
    cases hi
  · rw [q] at hi
    have e : b = i := by simpa [Value.ownBlock] using hi
    omega

set_option maxHeartbeats 4000000 in
theorem sum_any (l : List Entry) (a : Option Addr) (n cap : Nat) (key now : Int) (w : World) (hr : Wide 2 w a n cap (cells l)) (hz : ∀ e ∈ l, e.2.size ≤ maxLen) (hA : Asks w) : Calls Tryz.prog 50 #[.slice a n cap, .int .i64 key, .int .i64 now] w fun e w' => ∃ v, e = .returned (.tuple #[v, hv (logH l key now), errv (logE l key now)]) ∧ w'.ownsRow w.heap.size 3 1 v (logL l key now).length (ints (logL l key now)) ∧ Below w.heap.size w w' := by
  have hln := EntRows.len_of hr
  have aH := aggH
  have zH := sizeH
  have HR : Hid (Wide 2 w a n cap (cells l)) := hr
  have HZ : Hid (∀ e ∈ l, e.2.size ≤ maxLen) := hz
  have HT : Hid (∀ w', Below w.heap.size w w' → Asks w') := fun w' b => hA.below b
  have b0 : Below w.heap.size w (w.alloc (.cells #[.int .i64 0, .int .i64 0, .int .i64 0, .int .i64 0] 31)) := (Below.refl _ _).alloc (Nat.le_refl _) _
  have hq := quad_new w 0 0 0 0
  clear hr hz hA
  go_enter Tryz.func50, Tryz.ntmps50
  go_upto_region 1 with fail
  have HB0 : Hid (Below w.heap.size w (w.alloc (.cells #[.int .i64 0, .int .i64 0, .int .i64 0, .int .i64 0] 31))) := b0
  have HQ0 : Hid ((w.alloc (.cells #[.int .i64 0, .int .i64 0, .int .i64 0, .int .i64 0] 31)).rowIs w.heap.size 31 4 (quad 0 0 0 0)) := hq
  have HW00 : Hid (w.heap.size < (w.alloc (.cells #[.int .i64 0, .int .i64 0, .int .i64 0, .int .i64 0] 31)).heap.size) := by show _ < _; simp
  clear b0 hq
  generalize w.alloc (.cells #[.int .i64 0, .int .i64 0, .int .i64 0, .int .i64 0] 31) = w0 at HB0 HQ0 HW00 ⊢
  have cL := WalkEnt.leafs_any l a n cap w0 (HR.out.below HB0.out) HZ.out
  go_wp2_with fail
  refine cL.mono ?_
  rintro e w1 ⟨v, rfl, o1, b1⟩
  have HB1 : Hid (Below w.heap.size w w1) := bt HB0.out b1
  have HQ1 : Hid (w1.rowIs w.heap.size 31 4 (quad 0 0 0 0)) := HQ0.out.of_block (b1.block _ HQ0.out.lt)
  have HS1 : Hid (w.heap.size ≤ w0.heap.size) := HB0.out.size
  clear cL b1 HQ0
  by_cases hf : entsE l = 0
  rotate_left
  · have HE : Hid (logE l key now = entsE l ∧ logH l key now = zero ∧ logL l key now = []) := by
      have h1 : logE l key now = entsE l := if_neg hf
      exact ⟨h1, if_neg (by rw [h1]; exact hf), if_neg (by rw [h1]; exact hf)⟩
    have HN : Hid (errv (entsE l) = .iface 99 (.int .i64 (entsE l : Nat))) := errv_pos _ hf
    rw [HN.out]
    obtain ⟨q0, q1, q2, q3⟩ := at_quad HQ1.out
    simp only at q0 q1 q2 q3
    have f0 := HQ1.out.frozen 0
    have f1 := HQ1.out.frozen 1
    have f2 := HQ1.out.frozen 2
    have f3 := HQ1.out.frozen 3
    clear hf o1
    generalize entsE l = E at HE HN ⊢
    go_wp2_with fail
    try simp only [Exit.inBlock, Exit.then]
    refine bodyPost_ret (ret_sum _ rfl (quad_set HQ1.out 0 0 0 0)) rfl ⟨.slice none 0 0, ?_, ?_, set_below HB1.out (Nat.le_refl _) _ _ _ _⟩
    · rw [HE.out.1, HE.out.2.1, HN.out]
      rfl
    · rw [HE.out.2.2]
      exact World.ownsRow_nil _ _ _ _
  obtain ⟨a1, c1, rfl, hr1, _⟩ := owns_row o1
  have cR := WalkCheck.root_any (Entries.leafsV l) a1 _ c1 w1 hr1
  have hV : Entries.leafsV l = leafsOf l := if_pos hf
  rw [hV] at cR hr1 o1 ⊢
  rw [show Trees.rootV (leafsOf l) = rootE l from if_pos (leafs_fine hf), leafs_fine hf, WalkCheck.errv0] at cR
  have HS := sign_is (key := key) (now := now) hf
  have hlf : (leafsOf l).length = n := by rw [← hln]; exact List.length_map _
  have HSg : Hid (∀ w', Below w.heap.size w w' → Calls Tryz.prog 80 #[.agg #[.int .i64 (n : Int), .int .i64 (rootE l), .int .i64 now, .int .i64 0], .int .i64 key] w' fun e w'' => e = .returned (.tuple #[hv (logH l key now), errv (logE l key now)]) ∧ Below w'.heap.size w' w'') := fun w' b' => by
    have h := WalkHdSign.sign_any (bare l now) key w' (HT.out w' b')
    rw [HS.1, HS.2] at h
    unfold bare at h
    rw [hln] at h
    exact h
  have HO1 : Hid (w1.ownsRow w0.heap.size 3 1 (.slice a1 (leafsOf l).length c1) (leafsOf l).length (ints (leafsOf l))) := o1
  rw [hlf] at cR ⊢
  rw [hf, errv0]
  clear hf hV o1 hr1 HS
  go_wp2_with fail
  refine cR.mono ?_
  rintro e w2 ⟨rfl, b2⟩
  have HB2 : Hid (Below w.heap.size w w2) := bt HB1.out b2
  have HQ2 : Hid (w2.rowIs w.heap.size 31 4 (quad 0 0 0 0)) := HQ1.out.of_block (b2.block _ HQ1.out.lt)
  have HO2 : Hid (w2.ownsRow w0.heap.size 3 1 (.slice a1 (leafsOf l).length c1) (leafsOf l).length (ints (leafsOf l))) := Keeps.owns_kept HO1.out (Keeps.Kept.of_below (fun _ => False) b2) (fun _ _ h => h)
  clear cR b2 HQ1 HB1 HO1
  have cS := HSg.out w2 HB2.out
  obtain ⟨X, HX⟩ : ∃ X, Hid (logH l key now = X) := ⟨_, rfl⟩
  obtain ⟨E, HE⟩ : ∃ E, Hid (logE l key now = E) := ⟨_, rfl⟩
  rw [HX.out, HE.out] at cS
  obtain ⟨x0, x1, x2, x3⟩ := X
  unfold hv at cS
  simp only at cS
  clear HSg
  go_wp2_with fail
  refine cS.mono ?_
  rintro e w3 ⟨rfl, b3⟩
  have HB3 : Hid (Below w.heap.size w w3) := bt HB2.out b3
  have HQ3 : Hid (w3.rowIs w.heap.size 31 4 (quad 0 0 0 0)) := HQ2.out.of_block (b3.block _ HQ2.out.lt)
  have HO3 : Hid (w3.ownsRow w0.heap.size 3 1 (.slice a1 (leafsOf l).length c1) (leafsOf l).length (ints (leafsOf l))) := Keeps.owns_kept HO2.out (Keeps.Kept.of_below (fun _ => False) b3) (fun _ _ h => h)
  clear cS b3 HQ2 HB2 HO2
  go_upto_region 8 with fail
  have b4 : Below w3.heap.size w3 (w3.alloc (.cells #[.int .i64 x0, .int .i64 x1, .int .i64 x2, .int .i64 x3] 31)) := (Below.refl _ _).alloc (Nat.le_refl _) _
  have hn4 := quad_new w3 x0 x1 x2 x3
  have HB4 : Hid (Below w.heap.size w (w3.alloc (.cells #[.int .i64 x0, .int .i64 x1, .int .i64 x2, .int .i64 x3] 31))) := bt HB3.out b4
  have HQ4 : Hid ((w3.alloc (.cells #[.int .i64 x0, .int .i64 x1, .int .i64 x2, .int .i64 x3] 31)).rowIs w.heap.size 31 4 (quad 0 0 0 0)) := HQ3.out.of_block (b4.block _ HQ3.out.lt)
  have HO4 : Hid ((w3.alloc (.cells #[.int .i64 x0, .int .i64 x1, .int .i64 x2, .int .i64 x3] 31)).ownsRow w0.heap.size 3 1 (.slice a1 (leafsOf l).length c1) (leafsOf l).length (ints (leafsOf l))) := Keeps.owns_kept HO3.out (Keeps.Kept.of_below (fun _ => False) b4) (fun _ _ h => h)
  have HLt : Hid (w.heap.size < w3.heap.size) := HQ3.out.lt
  have HW0 : Hid (w.heap.size < w0.heap.size) := HW00.out
  clear b4 HB3 HQ3 HO3
  generalize w3.alloc (.cells #[.int .i64 x0, .int .i64 x1, .int .i64 x2, .int .i64 x3] 31) = w4 at hn4 HB4 HQ4 HO4 ⊢
  obtain ⟨p0, p1, p2, p3⟩ := at_quad hn4
  obtain ⟨q0, q1, q2, q3⟩ := at_quad HQ4.out
  simp only at p0 p1 p2 p3 q0 q1 q2 q3
  have f0 := HQ4.out.frozen 0
  have f1 := HQ4.out.frozen 1
  have f2 := HQ4.out.frozen 2
  have f3 := HQ4.out.frozen 3
  clear hn4
  by_cases hE : E = 0
  · subst hE
    rw [errv0]
    have HF : Hid (logL l key now = leafsOf l) := if_pos HE.out
    go_upto_region 10 with fail
    go_region
    have HQ5 : Hid ((World.drew ((((w4.setCell ⟨w.heap.size, 0, none⟩ (.int .i64 x0)).setCell ⟨w.heap.size, 1, none⟩ (.int .i64 x1)).setCell ⟨w.heap.size, 2, none⟩ (.int .i64 x2)).setCell ⟨w.heap.size, 3, none⟩ (.int .i64 x3))).rowIs w.heap.size 31 4 (quad x0 x1 x2 x3)) := quad_set HQ4.out x0 x1 x2 x3
    have HB5 : Hid (Below w.heap.size w (World.drew ((((w4.setCell ⟨w.heap.size, 0, none⟩ (.int .i64 x0)).setCell ⟨w.heap.size, 1, none⟩ (.int .i64 x1)).setCell ⟨w.heap.size, 2, none⟩ (.int .i64 x2)).setCell ⟨w.heap.size, 3, none⟩ (.int .i64 x3)))) := (set_below HB4.out (Nat.le_refl _) _ _ _ _).drew
    have HO5 : Hid ((World.drew ((((w4.setCell ⟨w.heap.size, 0, none⟩ (.int .i64 x0)).setCell ⟨w.heap.size, 1, none⟩ (.int .i64 x1)).setCell ⟨w.heap.size, 2, none⟩ (.int .i64 x2)).setCell ⟨w.heap.size, 3, none⟩ (.int .i64 x3))).ownsRow w0.heap.size 3 1 (.slice a1 (leafsOf l).length c1) (leafsOf l).length (ints (leafsOf l))) := own_set HO4.out HW0.out _ _ _ _
    generalize World.drew ((((w4.setCell ⟨w.heap.size, 0, none⟩ (.int .i64 x0)).setCell ⟨w.heap.size, 1, none⟩ (.int .i64 x1)).setCell ⟨w.heap.size, 2, none⟩ (.int .i64 x2)).setCell ⟨w.heap.size, 3, none⟩ (.int .i64 x3)) = w5 at HQ5 HB5 HO5 ⊢
    go_wp2_with fail
    try simp only [Exit.inBlock, Exit.then]
    refine bodyPost_ret (ret_sum _ rfl HQ5.out) rfl ⟨.slice a1 n c1, ?_, ?_, HB5.out⟩
    · rw [HE.out, HX.out]
      rfl
    · rw [HF.out]
      have h := Keeps.owns_base HO5.out (Nat.le_of_lt HW0.out)
      rw [hlf] at h ⊢
      exact h
  · have HN : Hid (errv E = .iface 99 (.int .i64 (E : Nat))) := errv_pos _ hE
    have HZr : Hid (logH l key now = zero) := if_neg (by rw [HE.out]; exact hE)
    have HF : Hid (logL l key now = []) := if_neg (by rw [HE.out]; exact hE)
    rw [HN.out]
    clear hE
    go_wp2_with fail
    try simp only [Exit.inBlock, Exit.then]
    refine bodyPost_ret (ret_sum _ rfl (quad_set HQ4.out 0 0 0 0)) rfl ⟨.slice none 0 0, ?_, ?_, set_below HB4.out (Nat.le_refl _) _ _ _ _⟩
    · rw [HE.out, HZr.out, HN.out]
      rfl
    · rw [HF.out]
      exact World.ownsRow_nil _ _ _ _

set_option maxHeartbeats 4000000 in
theorem head_any (l : List Entry) (a : Option Addr) (n cap : Nat) (key now : Int) (w : World) (hr : Wide 2 w a n cap (cells l)) (hz : ∀ e ∈ l, e.2.size ≤ maxLen) (hA : Asks w) : Calls Tryz.prog 11 #[.slice a n cap, .int .i64 key, .int .i64 now] w fun e w' => e = .returned (.tuple #[hv (logH l key now), errv (logE l key now)]) ∧ Below w.heap.size w w' := by
  have aH := aggH
  have zH := sizeH
  have b0 : Below w.heap.size w (w.alloc (.cells #[.int .i64 0, .int .i64 0, .int .i64 0, .int .i64 0] 31)) := (Below.refl _ _).alloc (Nat.le_refl _) _
  have hq := quad_new w 0 0 0 0
  have cS := sum_any l a n cap key now _ (hr.below b0) hz (hA.below b0)
  clear hr hz hA
  go_enter Tryz.func11, Tryz.ntmps11
  go_upto_region 1 with fail
  have HB0 : Hid (Below w.heap.size w (w.alloc (.cells #[.int .i64 0, .int .i64 0, .int .i64 0, .int .i64 0] 31))) := b0
  have HQ0 : Hid ((w.alloc (.cells #[.int .i64 0, .int .i64 0, .int .i64 0, .int .i64 0] 31)).rowIs w.heap.size 31 4 (quad 0 0 0 0)) := hq
  clear b0 hq
  generalize w.alloc (.cells #[.int .i64 0, .int .i64 0, .int .i64 0, .int .i64 0] 31) = w0 at HB0 HQ0 cS ⊢
  obtain ⟨X, HX⟩ : ∃ X, Hid (logH l key now = X) := ⟨_, rfl⟩
  obtain ⟨E, HE⟩ : ∃ E, Hid (errv (logE l key now) = E) := ⟨_, rfl⟩
  rw [HX.out, HE.out] at cS
  obtain ⟨x0, x1, x2, x3⟩ := X
  unfold hv at cS
  simp only at cS
  go_wp2_with fail
  refine cS.mono ?_
  rintro e w3 ⟨v, rfl, -, b3⟩
  have HB3 : Hid (Below w.heap.size w w3) := bt HB0.out b3
  have HQ3 : Hid (w3.rowIs w.heap.size 31 4 (quad 0 0 0 0)) := HQ0.out.of_block (b3.block _ HQ0.out.lt)
  clear cS b3 HQ0 HB0
  go_upto_region 2 with fail
  have b4 : Below w3.heap.size w3 (w3.alloc (.cells #[.int .i64 x0, .int .i64 x1, .int .i64 x2, .int .i64 x3] 31)) := (Below.refl _ _).alloc (Nat.le_refl _) _
  have hn4 := quad_new w3 x0 x1 x2 x3
  have HB4 : Hid (Below w.heap.size w (w3.alloc (.cells #[.int .i64 x0, .int .i64 x1, .int .i64 x2, .int .i64 x3] 31))) := bt HB3.out b4
  have HQ4 : Hid ((w3.alloc (.cells #[.int .i64 x0, .int .i64 x1, .int .i64 x2, .int .i64 x3] 31)).rowIs w.heap.size 31 4 (quad 0 0 0 0)) := HQ3.out.of_block (b4.block _ HQ3.out.lt)
  clear b4 HB3 HQ3
  generalize w3.alloc (.cells #[.int .i64 x0, .int .i64 x1, .int .i64 x2, .int .i64 x3] 31) = w4 at hn4 HB4 HQ4 ⊢
  obtain ⟨p0, p1, p2, p3⟩ := at_quad hn4
  obtain ⟨q0, q1, q2, q3⟩ := at_quad HQ4.out
  simp only at p0 p1 p2 p3 q0 q1 q2 q3
  have f0 := HQ4.out.frozen 0
  have f1 := HQ4.out.frozen 1
  have f2 := HQ4.out.frozen 2
  have f3 := HQ4.out.frozen 3
  clear hn4
  go_wp2_with fail
  try simp only [Exit.inBlock, Exit.then]
  refine bodyPost_ret (ret_head _ rfl (quad_set HQ4.out x0 x1 x2 x3)) rfl ⟨?_, set_below HB4.out (Nat.le_refl _) _ _ _ _⟩
  rw [HX.out, HE.out]
  rfl

end Go.Proofs.YticadkggaanbjaaGreatDoor.WalkSe
