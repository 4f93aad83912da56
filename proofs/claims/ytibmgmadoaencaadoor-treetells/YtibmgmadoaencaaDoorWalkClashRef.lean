/-
  What the document's own Clash (package witref1) returns on two lists of data.
-/
import Derived.Test.YtibmgmadoaencaaDoorWalkDataRef
namespace Go.Proofs.YtibmgmadoaencaaDoor.WalkClashRef
open Go.RowKit
open Lists (Row ints strs bt)
open WalkData (beq_yes beq_no)
open WalkClash (row_two size_two)
open Go.Sort (grow)

theorem ret_pair {w : World} {g : Nat} {x y : Value} (tmps : Array Value) (hp : tmps.getD 4 undef = .pointer (some ⟨g, 0, none⟩)) (h : w.heap[g]? = some (.cells #[x, y] 48 (0, 0))) :
    (results Tryd.f28 tmps).run Tryd.prog w = .ok (.agg #[x, y]) w :=
  results_cell_row rfl tmps w g _ #[x, y] (0, 0) _ hp h Tryd.underlying48 rfl size_two

/-- one list of data, its leafs laid, and the bytes of its node -/
theorem top_parts (d : List ByteArray) (p : Option Addr) (n c k : Nat) (w : World) (hn : n ≤ 200) (hk0 : 1 ≤ k) (hk : k < n) (hr : Row w p n c (ints (Trees.leafs d))) :
    ∃ b off, p = some ⟨b, off, none⟩ ∧ ¬ c = k ∧ (k : Int) ≤ (c : Int) ∧
      (∀ q os, Calls Tryd.prog 21 #[.slice (some ⟨b, off, none⟩) k c] (grow (redrawn w q) os) fun e w'' => e = .returned (.int .i64 (Trees.root (Trees.leafs (d.take k)))) ∧ ∃ p : Regrown, w'' = grow (redrawn w p.d) p.os) ∧
      (∀ q os, Calls Tryd.prog 21 #[.slice (some ⟨b, off + k, none⟩) (n - k) (c - k)] (grow (redrawn w q) os) fun e w'' => e = .returned (.int .i64 (Trees.root (Trees.leafs (d.drop k)))) ∧ ∃ p : Regrown, w'' = grow (redrawn w p.d) p.os) ∧
      (∀ q os, Calls Tryd.prog 7 #[.int .i64 (Trees.root (Trees.leafs (d.take k))), .int .i64 (Trees.root (Trees.leafs (d.drop k)))] (grow (redrawn w q) os) fun e w'' => e = .returned (.string (Trees.top d k)) ∧ ∃ p : Regrown, w'' = grow (redrawn w p.d) p.os) := by
  obtain ⟨b, off, rfl, _⟩ := hr.2.2 (by omega)
  have hcap := hr.2.1
  have r1 : Row w (some ⟨b, off, none⟩) k c (ints (Trees.leafs (d.take k))) := by rw [Trees.leafs_take, Lists.ints_take]; exact hr.take k (by omega)
  have r2 : Row w (some ⟨b, off + k, none⟩) (n - k) (c - k) (ints (Trees.leafs (d.drop k))) := by rw [Trees.leafs_drop, Lists.ints_drop]; exact hr.drop k (by omega)
  refine ⟨b, off, rfl, by omega, by omega, fun q os => ?_, fun q os => ?_, fun q os => ?_⟩
  · exact Calls.regrown_of (WalkTreeRef.root_le _ _ k c _ (by omega) (r1.below (below_regrown w q os)) (Trees.leafs_valid _))
  · exact Calls.regrown_of (WalkTreeRef.root_le _ _ (n - k) (c - k) _ (by omega) (r2.below (below_regrown w q os)) (Trees.leafs_valid _))
  · exact Calls.regrown_of (WalkRef.nodeBytes_any _ _ _ (Trees.root_valid _ (Trees.leafs_valid _)) (Trees.root_valid _ (Trees.leafs_valid _)))

set_option maxHeartbeats 8000000 in
set_option maxRecDepth 100000 in
theorem clash_any : ∀ (f : Nat) (x y : List ByteArray) (a b : Option Addr) (n cap cap' : Nat) (w : World), n < f → n ≤ 200 → 1 ≤ n → Row w a n cap (strs x) → Row w b n cap' (strs y) → (∀ s ∈ x, s.size ≤ 200) → (∀ s ∈ y, s.size ≤ 200) →
    Calls Tryd.prog 28 #[.slice a n cap, .slice b n cap'] w fun e w' => e = .returned (.agg #[.string (Trees.clash x y).1, .string (Trees.clash x y).2]) ∧ Below w.heap.size w w'
  | 0, _, _, _, _, _, _, _, _, h, _, _, _, _, _, _ => by omega
  | f + 1, x, y, a, b, n, cap, cap', w, hf, hn, hn1, hr, hs, hx, hy => by
    have hlx : x.length = n := by rw [← hr.1, Lists.strs_length]
    have hly : y.length = n := by rw [← hs.1, Lists.strs_length]
    obtain ⟨b1, o1, rfl, hc1⟩ := hr.2.2 (by omega)
    obtain ⟨b2, o2, rfl, hc2⟩ := hs.2.2 (by omega)
    have hcap := hr.2.1
    have hcap' := hs.2.1
    have b0 : Below w.heap.size w (w.alloc (.cells #[.string ⟨#[]⟩, .string ⟨#[]⟩] 48)) := (Below.refl _ _).alloc (Nat.le_refl _) _
    have HX : Hid (Row (w.alloc (.cells #[.string ⟨#[]⟩, .string ⟨#[]⟩] 48)) (some ⟨b1, o1, none⟩) n cap (strs x)) := hr.below b0
    have HY : Hid (Row (w.alloc (.cells #[.string ⟨#[]⟩, .string ⟨#[]⟩] 48)) (some ⟨b2, o2, none⟩) n cap' (strs y)) := hs.below b0
    have HW : Hid ((w.alloc (.cells #[.string ⟨#[]⟩, .string ⟨#[]⟩] 48)).rowIs w.heap.size 48 2 (fun _ => .string ⟨#[]⟩)) := World.rowIs_alloc w #[.string ⟨#[]⟩, .string ⟨#[]⟩] _ _ (fun i hi => by match i, hi with | 0, _ | 1, _ => rfl | i + 2, h => simp at h; omega)
    by_cases h1 : n = 1
    · have HE : Hid (Trees.clash x y = (Nums.str (0 :: (x.getD 0 ByteArray.empty).data.toList), Nums.str (0 :: (y.getD 0 ByteArray.empty).data.toList))) := Trees.clash_one x y (by omega)
      have q1 : w.cell? ⟨b1, o1, none⟩ = some (.string (x.getD 0 ByteArray.empty)) := by
        have := hc1 0 _ (Lists.strs_at (by omega))
        simpa using this
      have q2 : w.cell? ⟨b2, o2, none⟩ = some (.string (y.getD 0 ByteArray.empty)) := by
        have := hc2 0 _ (Lists.strs_at (by omega))
        simpa using this
      have z1 : (x.getD 0 ByteArray.empty).size ≤ 200 := hx _ (by rw [List.getD_eq_getElem?_getD, List.getElem?_eq_getElem (by omega)]; exact List.getElem_mem _)
      have z2 : (y.getD 0 ByteArray.empty).size ≤ 200 := hy _ (by rw [List.getD_eq_getElem?_getD, List.getElem?_eq_getElem (by omega)]; exact List.getElem_mem _)
      have g1 := Lists.cell_below b0 q1
      have g2 := Lists.cell_below b0 q2
      generalize x.getD 0 ByteArray.empty = s1 at g1 HE z1
      generalize y.getD 0 ByteArray.empty = s2 at g2 HE z2
      subst h1
      clear hc1 hc2 hr hs hx hy hlx hly hf hn q1 q2 HX HY
      go_enter Tryd.func28, Tryd.ntmps28
      go_upto_region 1 with fail
      generalize w.alloc (.cells #[.string ⟨#[]⟩, .string ⟨#[]⟩] 48) = w1 at b0 HW g1 g2 ⊢
      have r0 := HW.out.cell (i := 0) (by omega)
      have r1 := HW.out.cell (i := 1) (by omega)
      have f0 := HW.out.frozen 0
      have f1 := HW.out.frozen 1
      have HR : Hid (((w1.setCell ⟨w.heap.size, 0, none⟩ (.string (⟨#[0]⟩ ++ s1))).setCell ⟨w.heap.size, 1, none⟩ (.string (⟨#[0]⟩ ++ s2))).heap[w.heap.size]? = some (.cells #[.string (⟨#[0]⟩ ++ s1), .string (⟨#[0]⟩ ++ s2)] 48 (0, 0))) :=
        row_two ((HW.out.set 0 _).set 1 _)
      have n1 : ¬ 9223372036854775807 < 1 + s1.size := by omega
      have n2 : ¬ 9223372036854775807 < 1 + s2.size := by omega
      go_wp2_with fail
      refine wp_region_still_tail 9 (by kernel_rfl) (by kernel_rfl) ?_
      rw [show ({ w1 with drawn := w1.drawn + 1 } : World) = w1.drew from rfl]
      simp only [List.take_succ_cons, List.take_zero, List.drop_succ_cons, List.drop_zero]
      repeat still_step
      refine wpStill_nil ?_
      go_wp2_with fail
      try simp only [Exit.inBlock, Exit.then]
      refine bodyPost_ret (ret_pair _ rfl HR.out) rfl ⟨?_, ((b0.setCell (Nat.le_refl _) _).setCell (Nat.le_refl _) _).drew⟩
      rw [HE.out]
      have e1 : (⟨#[0]⟩ ++ s1 : ByteArray) = Nums.str (0 :: s1.data.toList) := Nums.str_append [0] s1.data.toList
      have e2 : (⟨#[0]⟩ ++ s2 : ByteArray) = Nums.str (0 :: s2.data.toList) := Nums.str_append [0] s2.data.toList
      rw [e1, e2]
    · have h2 : 2 ≤ n := by omega
      clear hc1 hc2
      have kl := Trees.half_lt n h2
      have kp := Trees.half_pos n
      have cS := fun w => WalkTreeRef.half_any n w h2 (by omega)
      have SX : Hid (∀ s ∈ x, s.size ≤ 200) := hx
      have SY : Hid (∀ s ∈ y, s.size ≤ 200) := hy
      have ih := fun (w1 : World) (b1_ : Below w.heap.size w w1) => And.intro
        (fun (_ : Hid True) => clash_any f (x.take (Trees.half n)) (y.take (Trees.half n)) (some ⟨b1, o1, none⟩) (some ⟨b2, o2, none⟩) (Trees.half n) cap cap' w1 (by omega) (by omega) kp
          (by rw [Lists.strs_take]; exact (hr.below b1_).take _ (by omega)) (by rw [Lists.strs_take]; exact (hs.below b1_).take _ (by omega))
          (fun s h => hx s (List.mem_of_mem_take h)) (fun s h => hy s (List.mem_of_mem_take h)))
        (fun (_ : Hid True) => clash_any f (x.drop (Trees.half n)) (y.drop (Trees.half n)) (some ⟨b1, o1 + Trees.half n, none⟩) (some ⟨b2, o2 + Trees.half n, none⟩) (n - Trees.half n) (cap - Trees.half n) (cap' - Trees.half n) w1 (by omega) (by omega) (by omega)
          (by rw [Lists.strs_drop]; exact (hr.below b1_).drop _ (by omega)) (by rw [Lists.strs_drop]; exact (hs.below b1_).drop _ (by omega))
          (fun s h => hx s (List.mem_of_mem_drop h)) (fun s h => hy s (List.mem_of_mem_drop h)))
      have HM : Hid (∀ k, Trees.half n = k → (¬ Trees.top x k = Trees.top y k → Trees.clash x y = (Trees.top x k, Trees.top y k)) ∧
          (Trees.top x k = Trees.top y k → ¬ x.take k = y.take k → Trees.clash x y = Trees.clash (x.take k) (y.take k)) ∧
          (Trees.top x k = Trees.top y k → x.take k = y.take k → Trees.clash x y = Trees.clash (x.drop k) (y.drop k))) := by
        intro k hk
        subst hk
        rw [← hlx]
        exact ⟨Trees.clash_here x y (by omega), Trees.clash_left x y (by omega), Trees.clash_right x y (by omega)⟩
      generalize hk : Trees.half n = k at kl kp cS ih
      have HM := HM.out k hk
      clear hr hs hx hy hf hk
      have i1 : (k : Int) ≤ (cap : Int) := by omega
      have i2 : (k : Int) ≤ (n : Int) := by omega
      have i3 : (k : Int) ≤ (cap' : Int) := by omega
      have e1 : ¬ cap = k := by omega
      have e2 : ¬ cap' = k := by omega
      have j1 : ¬ (n : Int) = 1 := by omega
      have HI := ih
      have HM' : Hid (_ ∧ _) := HM
      clear ih HM
      go_enter Tryd.func28, Tryd.ntmps28
      go_upto_region 1 with fail
      generalize w.alloc (.cells #[.string ⟨#[]⟩, .string ⟨#[]⟩] 48) = w1 at b0 HW HX HY ⊢
      go_wp2_with fail
      refine (cS _).mono ?_
      rintro e w' ⟨rfl, rfl⟩
      go_wp2_with fail
      refine (WalkDataRef.sums_any x _ n cap _ (by omega) HX.out (fun s h => Nat.le_trans (SX.out s h) (by decide))).mono ?_
      rintro e w2 ⟨p1, c1, rfl, hp1, bb⟩
      replace HX : Hid (Row w2 (some ⟨b1, o1, none⟩) n cap (strs x)) := HX.out.below bb
      replace HY : Hid (Row w2 (some ⟨b2, o2, none⟩) n cap' (strs y)) := HY.out.below bb
      replace HW : Hid (w2.rowIs w.heap.size 48 2 (fun _ => .string ⟨#[]⟩)) := HW.out.of_block (bb.block _ HW.out.lt)
      replace b0 := bt b0 bb
      clear bb
      have HP1 : Hid (Row w2 p1 n c1 (ints (Trees.leafs x))) := hp1
      clear hp1
      go_wp2_with fail
      refine (WalkDataRef.sums_any y _ n cap' _ (by omega) HY.out (fun s h => Nat.le_trans (SY.out s h) (by decide))).mono ?_
      rintro e w3 ⟨p2, c2, rfl, hp2, bb⟩
      replace HX : Hid (Row w3 (some ⟨b1, o1, none⟩) n cap (strs x)) := HX.out.below bb
      replace HY : Hid (Row w3 (some ⟨b2, o2, none⟩) n cap' (strs y)) := HY.out.below bb
      replace HW : Hid (w3.rowIs w.heap.size 48 2 (fun _ => .string ⟨#[]⟩)) := HW.out.of_block (bb.block _ HW.out.lt)
      replace HP1 : Hid (Row w3 p1 n c1 (ints (Trees.leafs x))) := HP1.out.below bb
      replace b0 := bt b0 bb
      clear bb
      have HP2 : Hid (Row w3 p2 n c2 (ints (Trees.leafs y))) := hp2
      clear hp2
      obtain ⟨g1, q1, rfl, t1, t2, x1, x2, x3⟩ := top_parts x p1 n c1 k w3 hn kp kl HP1.out
      go_wp2_with fail
      refine wp_region_quiet_below (by kernel_rfl) (by kernel_rfl) ?_
      repeat (quiet_step (fail))
      quiet_step (exact x1 _ _)
      repeat (quiet_step (fail))
      quiet_step (exact x2 _ _)
      quiet_step (exact x3 _ _)
      repeat (quiet_step (fail))
      refine wpQuiet_nil ?_
      intro _ hw'
      obtain ⟨⟨dq, osq⟩, hw''⟩ := hw'
      subst hw''
      have bb := below_regrown w3 dq osq
      generalize grow (redrawn w3 dq) osq = w4 at bb ⊢
      replace HX : Hid (Row w4 (some ⟨b1, o1, none⟩) n cap (strs x)) := HX.out.below bb
      replace HY : Hid (Row w4 (some ⟨b2, o2, none⟩) n cap' (strs y)) := HY.out.below bb
      replace HW : Hid (w4.rowIs w.heap.size 48 2 (fun _ => .string ⟨#[]⟩)) := HW.out.of_block (bb.block _ HW.out.lt)
      replace HP2 : Hid (Row w4 p2 n c2 (ints (Trees.leafs y))) := HP2.out.below bb
      replace b0 := bt b0 bb
      clear bb x1 x2 x3 HP1
      obtain ⟨g2, q2, rfl, t3, t4, x1, x2, x3⟩ := top_parts y p2 n c2 k w4 hn kp kl HP2.out
      go_wp2_with fail
      refine wp_region_quiet_below (by kernel_rfl) (by kernel_rfl) ?_
      repeat (quiet_step (fail))
      quiet_step (exact x1 _ _)
      repeat (quiet_step (fail))
      quiet_step (exact x2 _ _)
      quiet_step (exact x3 _ _)
      repeat (quiet_step (fail))
      refine wpQuiet_nil ?_
      intro _ hw'
      obtain ⟨⟨dq, osq⟩, hw''⟩ := hw'
      subst hw''
      have bb := below_regrown w4 dq osq
      generalize grow (redrawn w4 dq) osq = w5 at bb ⊢
      replace HX : Hid (Row w5 (some ⟨b1, o1, none⟩) n cap (strs x)) := HX.out.below bb
      replace HY : Hid (Row w5 (some ⟨b2, o2, none⟩) n cap' (strs y)) := HY.out.below bb
      replace HW : Hid (w5.rowIs w.heap.size 48 2 (fun _ => .string ⟨#[]⟩)) := HW.out.of_block (bb.block _ HW.out.lt)
      replace b0 := bt b0 bb
      clear bb x1 x2 x3 HP2 t1 t2 t3 t4
      by_cases ht : Trees.top x k = Trees.top y k
      case neg =>
        have HE : Hid (Trees.clash x y = (Trees.top x k, Trees.top y k)) := HM'.out.1 ht
        have hq := beq_no ht
        have r0 := HW.out.cell (i := 0) (by omega)
        have r1 := HW.out.cell (i := 1) (by omega)
        have f0 := HW.out.frozen 0
        have f1 := HW.out.frozen 1
        have HR : Hid (((w5.setCell ⟨w.heap.size, 0, none⟩ (.string (Trees.top x k))).setCell ⟨w.heap.size, 1, none⟩ (.string (Trees.top y k))).heap[w.heap.size]? = some (.cells #[.string (Trees.top x k), .string (Trees.top y k)] 48 (0, 0))) :=
          row_two ((HW.out.set 0 _).set 1 _)
        clear ht HI
        go_wp2_with fail
        try simp only [Exit.inBlock, Exit.then]
        refine bodyPost_ret (ret_pair _ rfl HR.out) rfl ⟨?_, (b0.setCell (Nat.le_refl _) _).setCell (Nat.le_refl _) _⟩
        rw [HE.out]
      have hq : ((Trees.top x k).toList == (Trees.top y k).toList) = true := by rw [ht]; exact beq_yes _
      have x1 : ∀ q os, Calls Tryd.prog 43 #[.slice (some ⟨b1, o1, none⟩) k cap, .slice (some ⟨b2, o2, none⟩) k cap'] (grow (redrawn w5 q) os) fun e w'' => e = .returned (.bool (decide (x.take k = y.take k))) ∧ ∃ p : Regrown, w'' = grow (redrawn w5 p.d) p.os :=
        fun q os => Calls.regrown_of (WalkDataRef.same_any _ _ _ _ k cap cap' _ (by rw [Lists.strs_take]; exact (HX.out.below (below_regrown w5 q os)).take k (by omega)) (by rw [Lists.strs_take]; exact (HY.out.below (below_regrown w5 q os)).take k (by omega)) (by omega))
      have HT : Hid (Trees.top x k = Trees.top y k) := ht
      clear ht
      go_wp2_with fail
      refine wp_region_quiet_below (by kernel_rfl) (by kernel_rfl) ?_
      repeat (quiet_step (fail))
      quiet_step (exact x1 _ _)
      repeat (quiet_step (fail))
      refine wpQuiet_nil ?_
      intro _ hw'
      obtain ⟨⟨dq, osq⟩, hw''⟩ := hw'
      subst hw''
      have bb := below_regrown w5 dq osq
      generalize grow (redrawn w5 dq) osq = w6 at bb ⊢
      replace HW : Hid (w6.rowIs w.heap.size 48 2 (fun _ => .string ⟨#[]⟩)) := HW.out.of_block (bb.block _ HW.out.lt)
      replace b0 := bt b0 bb
      clear bb x1 HX HY
      by_cases he : x.take k = y.take k
      · have HE : Hid (Trees.clash x y = Trees.clash (x.drop k) (y.drop k)) := HM'.out.2.2 HT.out he
        rw [decide_eq_true he]
        have cI := (HI w6.drew b0.drew).2 trivial
        clear he HI HM' HT
        go_wp2_with fail
        refine wp_region_still_tail 6 (by kernel_rfl) (by kernel_rfl) ?_
        rw [show ({ w6 with drawn := w6.drawn + 1 } : World) = w6.drew from rfl]
        simp only [List.take_succ_cons, List.take_zero, List.drop_succ_cons, List.drop_zero]
        repeat still_step
        refine wpStill_nil ?_
        go_wp2_with fail
        refine cI.mono ?_
        rintro e w7 ⟨rfl, bb⟩
        replace HW : Hid (w7.rowIs w.heap.size 48 2 (fun _ => .string ⟨#[]⟩)) := HW.out.of_block (bb.block _ HW.out.lt)
        replace b0 := bt b0.drew bb
        clear bb
        have r0 := HW.out.cell (i := 0) (by omega)
        have r1 := HW.out.cell (i := 1) (by omega)
        have f0 := HW.out.frozen 0
        have f1 := HW.out.frozen 1
        have HR : Hid (((w7.setCell ⟨w.heap.size, 0, none⟩ (.string (Trees.clash (x.drop k) (y.drop k)).1)).setCell ⟨w.heap.size, 1, none⟩ (.string (Trees.clash (x.drop k) (y.drop k)).2)).heap[w.heap.size]? = some (.cells #[.string (Trees.clash (x.drop k) (y.drop k)).1, .string (Trees.clash (x.drop k) (y.drop k)).2] 48 (0, 0))) :=
          row_two ((HW.out.set 0 _).set 1 _)
        go_wp2_with fail
        try simp only [Exit.inBlock, Exit.then]
        refine bodyPost_ret (ret_pair _ rfl HR.out) rfl ⟨?_, (b0.setCell (Nat.le_refl _) _).setCell (Nat.le_refl _) _⟩
        rw [HE.out]
      · have HE : Hid (Trees.clash x y = Trees.clash (x.take k) (y.take k)) := HM'.out.2.1 HT.out he
        rw [decide_eq_false he]
        have cI := (HI w6.drew b0.drew).1 trivial
        clear he HI HM' HT
        go_wp2_with fail
        refine wp_region_still_tail 6 (by kernel_rfl) (by kernel_rfl) ?_
        rw [show ({ w6 with drawn := w6.drawn + 1 } : World) = w6.drew from rfl]
        simp only [List.take_succ_cons, List.take_zero, List.drop_succ_cons, List.drop_zero]
        repeat still_step
        refine wpStill_nil ?_
        go_wp2_with fail
        refine cI.mono ?_
        rintro e w7 ⟨rfl, bb⟩
        replace HW : Hid (w7.rowIs w.heap.size 48 2 (fun _ => .string ⟨#[]⟩)) := HW.out.of_block (bb.block _ HW.out.lt)
        replace b0 := bt b0.drew bb
        clear bb
        have r0 := HW.out.cell (i := 0) (by omega)
        have r1 := HW.out.cell (i := 1) (by omega)
        have f0 := HW.out.frozen 0
        have f1 := HW.out.frozen 1
        have HR : Hid (((w7.setCell ⟨w.heap.size, 0, none⟩ (.string (Trees.clash (x.take k) (y.take k)).1)).setCell ⟨w.heap.size, 1, none⟩ (.string (Trees.clash (x.take k) (y.take k)).2)).heap[w.heap.size]? = some (.cells #[.string (Trees.clash (x.take k) (y.take k)).1, .string (Trees.clash (x.take k) (y.take k)).2] 48 (0, 0))) :=
          row_two ((HW.out.set 0 _).set 1 _)
        go_wp2_with fail
        try simp only [Exit.inBlock, Exit.then]
        refine bodyPost_ret (ret_pair _ rfl HR.out) rfl ⟨?_, (b0.setCell (Nat.le_refl _) _).setCell (Nat.le_refl _) _⟩
        rw [HE.out]

end Go.Proofs.YtibmgmadoaencaaDoor.WalkClashRef
