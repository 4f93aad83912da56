/-
  What the program's tree.Collide returns, for every two lists of data.
-/
import Derived.Test.YthaibjidfgmdmahGreatDoorWalkClash
namespace Go.Proofs.YthaibjidfgmdmahGreatDoor.WalkCollide
open Go.RowKit
open Lists (Row ints strs bt)
open WalkClash (row_two size_two)

theorem ret_pair2 {w : World} {g : Nat} {x y : Value} (tmps : Array Value) (hp : tmps.getD 4 undef = .pointer (some ⟨g, 0, none⟩)) (h : w.heap[g]? = some (.cells #[x, y] 54 (0, 0))) :
    (results Tryz.f21 tmps).run Tryz.prog w = .ok (.tuple #[.agg #[x, y], tmps.getD 5 undef]) w := by
  rw [results_cell_tmp rfl, hp]
  simp [asAddr, run_loadVar_row w g _ 54 #[x, y] (0, 0) _ h Tryz.underlying54 rfl size_two, Result.andThen]

set_option maxHeartbeats 4000000 in
theorem collide_any (x y : List ByteArray) (a b : Option Addr) (n m cap cap' : Nat) (w : World) (hr : Row w a n cap (strs x)) (hs : Row w b m cap' (strs y)) :
    Calls Tryz.prog 21 #[.slice a n cap, .slice b m cap'] w fun e w' => e = .returned (.tuple #[.agg #[.string (Trees.collideV x y).1, .string (Trees.collideV x y).2], WalkCheck.errv (Trees.collideE x y)]) ∧ Below w.heap.size w w' := by
  have hlx : x.length = n := by rw [← hr.1, Lists.strs_length]
  have hly : y.length = m := by rw [← hs.1, Lists.strs_length]
  have b0 : Below w.heap.size w (w.alloc (.cells #[.string ⟨#[]⟩, .string ⟨#[]⟩] 54)) := (Below.refl _ _).alloc (Nat.le_refl _) _
  have HX : Hid (Row (w.alloc (.cells #[.string ⟨#[]⟩, .string ⟨#[]⟩] 54)) a n cap (strs x)) := hr.below b0
  have HY : Hid (Row (w.alloc (.cells #[.string ⟨#[]⟩, .string ⟨#[]⟩] 54)) b m cap' (strs y)) := hs.below b0
  have HW : Hid ((w.alloc (.cells #[.string ⟨#[]⟩, .string ⟨#[]⟩] 54)).rowIs w.heap.size 54 2 (fun _ => .string ⟨#[]⟩)) := World.rowIs_alloc w #[.string ⟨#[]⟩, .string ⟨#[]⟩] _ _ (fun i hi => by match i, hi with | 0, _ | 1, _ => rfl | i + 2, h => simp at h; omega)
  clear hr hs
  go_enter Tryz.func21, Tryz.ntmps21
  go_wp2_with fail
  generalize w.alloc (.cells #[.string ⟨#[]⟩, .string ⟨#[]⟩] 54) = w1 at b0 HX HY HW ⊢
  refine (WalkData.tooMuch_any x a n cap _ HX.out).mono ?_
  rintro e w' ⟨rfl, rfl⟩
  have r0 := HW.out.cell (i := 0) (by omega)
  have r1 := HW.out.cell (i := 1) (by omega)
  have f0 := HW.out.frozen 0
  have f1 := HW.out.frozen 1
  have HZ : Hid (((w'.setCell ⟨w.heap.size, 0, none⟩ (.string ⟨#[]⟩)).setCell ⟨w.heap.size, 1, none⟩ (.string ⟨#[]⟩)).heap[w.heap.size]? = some (.cells #[.string ⟨#[]⟩, .string ⟨#[]⟩] 54 (0, 0))) := row_two ((HW.out.set 0 _).set 1 _)
  have bz : Below w.heap.size w ((w'.setCell ⟨w.heap.size, 0, none⟩ (.string ⟨#[]⟩)).setCell ⟨w.heap.size, 1, none⟩ (.string ⟨#[]⟩)) := (b0.setCell (Nat.le_refl _) _).setCell (Nat.le_refl _) _
  cases hdx : Trees.dataOk x
  · have HV : Hid (Trees.collideE x y = 4 ∧ Trees.collideV x y = (⟨#[]⟩, ⟨#[]⟩)) := Trees.collide_4 (by rw [hdx]; rfl)
    go_wp2_with fail
    try simp only [Exit.inBlock, Exit.then]
    refine bodyPost_ret (ret_pair2 _ rfl HZ.out) rfl ⟨?_, bz⟩
    rw [HV.out.1, HV.out.2]
    rfl
  have hn : n ≤ 200 := by
    unfold Trees.dataOk at hdx
    rw [Bool.and_eq_true, decide_eq_true_eq] at hdx
    omega
  have SX : Hid (∀ s ∈ x, s.size ≤ 200) := by
    unfold Trees.dataOk at hdx
    rw [Bool.and_eq_true] at hdx
    exact Trees.shortOk_mem hdx.2
  go_wp2_with fail
  refine (WalkData.tooMuch_any y b m cap' _ HY.out).mono ?_
  rintro e w' ⟨rfl, rfl⟩
  cases hdy : Trees.dataOk y
  · have HV : Hid (Trees.collideE x y = 4 ∧ Trees.collideV x y = (⟨#[]⟩, ⟨#[]⟩)) := Trees.collide_4 (by rw [hdy, Bool.and_false])
    go_wp2_with fail
    try simp only [Exit.inBlock, Exit.then]
    refine bodyPost_ret (ret_pair2 _ rfl HZ.out) rfl ⟨?_, bz⟩
    rw [HV.out.1, HV.out.2]
    rfl
  have SY : Hid (∀ s ∈ y, s.size ≤ 200) := by
    unfold Trees.dataOk at hdy
    rw [Bool.and_eq_true] at hdy
    exact Trees.shortOk_mem hdy.2
  have HD : Hid ((Trees.dataOk x && Trees.dataOk y) = true) := by rw [hdx, hdy]; rfl
  clear hdx hdy
  by_cases h3 : n = m
  case neg =>
    have HV : Hid (Trees.collideE x y = 3 ∧ Trees.collideV x y = (⟨#[]⟩, ⟨#[]⟩)) := Trees.collide_3 HD.out (by omega)
    have i1 : ((n : Int) != (m : Int)) = true := by rw [bne_iff_ne]; omega
    go_wp2_with fail
    try simp only [Exit.inBlock, Exit.then]
    refine bodyPost_ret (ret_pair2 _ rfl HZ.out) rfl ⟨?_, bz⟩
    rw [HV.out.1, HV.out.2]
    rfl
  subst h3
  have i1 : ((n : Int) != (n : Int)) = false := by simp
  go_wp2_with fail
  refine (WalkData.equal_any x y a b n n cap cap' _ HX.out HY.out hn).mono ?_
  rintro e w2 ⟨rfl, b2⟩
  replace HX : Hid (Row w2 a n cap (strs x)) := HX.out.below b2
  replace HY : Hid (Row w2 b n cap' (strs y)) := HY.out.below b2
  replace HW : Hid (w2.rowIs w.heap.size 54 2 (fun _ => .string ⟨#[]⟩)) := HW.out.of_block (b2.block _ HW.out.lt)
  replace b0 := bt b0 b2
  clear b2 r0 r1 f0 f1 HZ bz
  have r0 := HW.out.cell (i := 0) (by omega)
  have r1 := HW.out.cell (i := 1) (by omega)
  have f0 := HW.out.frozen 0
  have f1 := HW.out.frozen 1
  have HZ : Hid (((w2.setCell ⟨w.heap.size, 0, none⟩ (.string ⟨#[]⟩)).setCell ⟨w.heap.size, 1, none⟩ (.string ⟨#[]⟩)).heap[w.heap.size]? = some (.cells #[.string ⟨#[]⟩, .string ⟨#[]⟩] 54 (0, 0))) := row_two ((HW.out.set 0 _).set 1 _)
  have bz : Below w.heap.size w ((w2.setCell ⟨w.heap.size, 0, none⟩ (.string ⟨#[]⟩)).setCell ⟨w.heap.size, 1, none⟩ (.string ⟨#[]⟩)) := (b0.setCell (Nat.le_refl _) _).setCell (Nat.le_refl _) _
  by_cases h7 : x = y
  · have HV : Hid (Trees.collideE x y = 7 ∧ Trees.collideV x y = (⟨#[]⟩, ⟨#[]⟩)) := Trees.collide_7 HD.out h7
    rw [decide_eq_true h7]
    clear h7
    go_wp2_with fail
    try simp only [Exit.inBlock, Exit.then]
    refine bodyPost_ret (ret_pair2 _ rfl HZ.out) rfl ⟨?_, bz⟩
    rw [HV.out.1, HV.out.2]
    rfl
  rw [decide_eq_false h7]
  have H7 : Hid (¬ x = y) := h7
  clear h7
  go_wp2_with fail
  refine (WalkData.rootOfData_any x a n cap _ hn HX.out (fun s hs => Nat.le_trans (SX.out s hs) (by decide))).mono ?_
  rintro e w3 ⟨rfl, b3⟩
  go_wp2_with fail
  refine (WalkData.rootOfData_any y b n cap' _ hn (HY.out.below b3) (fun s hs => Nat.le_trans (SY.out s hs) (by decide))).mono ?_
  rintro e w4 ⟨rfl, b4⟩
  replace b3 := bt b3 b4
  replace HX : Hid (Row w4 a n cap (strs x)) := HX.out.below b3
  replace HY : Hid (Row w4 b n cap' (strs y)) := HY.out.below b3
  replace HW : Hid (w4.rowIs w.heap.size 54 2 (fun _ => .string ⟨#[]⟩)) := HW.out.of_block (b3.block _ HW.out.lt)
  replace b0 := bt b0 b3
  clear b3 b4 r0 r1 f0 f1 HZ bz
  by_cases h5 : Trees.root (Trees.leafs x) = Trees.root (Trees.leafs y)
  case neg =>
    have HV : Hid (Trees.collideE x y = 5 ∧ Trees.collideV x y = (⟨#[]⟩, ⟨#[]⟩)) := Trees.collide_5 HD.out (by omega) H7.out h5
    have i2 : (Trees.root (Trees.leafs x) != Trees.root (Trees.leafs y)) = true := by rw [bne_iff_ne]; exact h5
    have r0 := HW.out.cell (i := 0) (by omega)
    have r1 := HW.out.cell (i := 1) (by omega)
    have f0 := HW.out.frozen 0
    have f1 := HW.out.frozen 1
    have HZ : Hid (((w4.setCell ⟨w.heap.size, 0, none⟩ (.string ⟨#[]⟩)).setCell ⟨w.heap.size, 1, none⟩ (.string ⟨#[]⟩)).heap[w.heap.size]? = some (.cells #[.string ⟨#[]⟩, .string ⟨#[]⟩] 54 (0, 0))) := row_two ((HW.out.set 0 _).set 1 _)
    have bz : Below w.heap.size w ((w4.setCell ⟨w.heap.size, 0, none⟩ (.string ⟨#[]⟩)).setCell ⟨w.heap.size, 1, none⟩ (.string ⟨#[]⟩)) := (b0.setCell (Nat.le_refl _) _).setCell (Nat.le_refl _) _
    clear h5
    go_wp2_with fail
    try simp only [Exit.inBlock, Exit.then]
    refine bodyPost_ret (ret_pair2 _ rfl HZ.out) rfl ⟨?_, bz⟩
    rw [HV.out.1, HV.out.2]
    rfl
  have HV : Hid (Trees.collideE x y = 0 ∧ Trees.collideV x y = Trees.clash x y) := Trees.collide_0 HD.out (by omega) H7.out h5
  have n1 : 1 ≤ n := by
    rcases Nat.eq_zero_or_pos n with h | h
    · exact absurd (by rw [List.length_eq_zero_iff.1 (hlx.trans h), List.length_eq_zero_iff.1 (hly.trans h)]) H7.out
    · exact h
  have i2 : (Trees.root (Trees.leafs x) != Trees.root (Trees.leafs y)) = false := by rw [bne_eq_false_iff_eq]; exact h5
  clear h5
  go_wp2_with fail
  refine (WalkClash.clash_any x y a b n cap cap' _ hn n1 HX.out HY.out SX.out SY.out H7.out).mono ?_
  rintro e w5 ⟨rfl, b5⟩
  replace HW : Hid (w5.rowIs w.heap.size 54 2 (fun _ => .string ⟨#[]⟩)) := HW.out.of_block (b5.block _ HW.out.lt)
  replace b0 := bt b0 b5
  clear b5
  have r0 := HW.out.cell (i := 0) (by omega)
  have r1 := HW.out.cell (i := 1) (by omega)
  have f0 := HW.out.frozen 0
  have f1 := HW.out.frozen 1
  have HZ : Hid (((w5.setCell ⟨w.heap.size, 0, none⟩ (.string (Trees.clash x y).1)).setCell ⟨w.heap.size, 1, none⟩ (.string (Trees.clash x y).2)).heap[w.heap.size]? = some (.cells #[.string (Trees.clash x y).1, .string (Trees.clash x y).2] 54 (0, 0))) := row_two ((HW.out.set 0 _).set 1 _)
  have bz : Below w.heap.size w ((w5.setCell ⟨w.heap.size, 0, none⟩ (.string (Trees.clash x y).1)).setCell ⟨w.heap.size, 1, none⟩ (.string (Trees.clash x y).2)) := (b0.setCell (Nat.le_refl _) _).setCell (Nat.le_refl _) _
  go_wp2_with fail
  try simp only [Exit.inBlock, Exit.then]
  refine bodyPost_ret (ret_pair2 _ rfl HZ.out) rfl ⟨?_, bz⟩
  rw [HV.out.1, HV.out.2]
  rfl

end Go.Proofs.YthaibjidfgmdmahGreatDoor.WalkCollide
