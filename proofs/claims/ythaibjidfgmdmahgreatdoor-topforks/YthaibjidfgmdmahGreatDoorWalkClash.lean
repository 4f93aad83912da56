/-
  What the program's tree.clash and tree.Collide return.
-/
import Derived.Test.YthaibjidfgmdmahGreatDoorWalkData
import Derived.Deep.Cut
import Derived.Deep.RegionWith
import Derived.Laws.ResultCell
import Derived.Laws.Rows
namespace Go.Proofs.YthaibjidfgmdmahGreatDoor.WalkClash
open Go.RowKit
open Lists (Row ints strs bt)
open Go.Sort (grow)

/-- how many elements the slice in a slot has -/
def lenOf : Value → Nat | .slice _ n _ => n | _ => 0

/-- a row of two cells, written out -/
theorem row_two {w : World} {g : Nat} {t : TypeId} {f : Nat → Value} (h : w.rowIs g t 2 f) : w.heap[g]? = some (.cells #[f 0, f 1] t (0, 0)) := by
  obtain ⟨c, hb, hn, hc⟩ := h
  have : c = #[f 0, f 1] := by
    apply Array.ext_getElem?
    intro i
    match i with
    | 0 => rw [hc 0 (by omega)]; rfl
    | 1 => rw [hc 1 (by omega)]; rfl
    | i + 2 => rw [Array.getElem?_eq_none (by omega), Array.getElem?_eq_none (by simp)]
  rw [hb, this]
theorem size_two : (Tryz.prog.info? 54).map (·.size) = some 2 := by kernel_rfl
theorem ret_pair {w : World} {g : Nat} {x y : Value} (tmps : Array Value) (hp : tmps.getD 4 undef = .pointer (some ⟨g, 0, none⟩)) (h : w.heap[g]? = some (.cells #[x, y] 54 (0, 0))) :
    (results Tryz.f61 tmps).run Tryz.prog w = .ok (.agg #[x, y]) w :=
  results_cell_row rfl tmps w g _ #[x, y] (0, 0) _ hp h Tryz.underlying54 rfl size_two

/-- where the loop of clash stands -/
structure St (w wr : World) (x y : List ByteArray) (p q : Option Addr) (m c c' : Nat) (X Y : List ByteArray) : Prop where
  m1 : 1 ≤ m
  m2 : m ≤ 200
  rx : Row wr p m c (strs X)
  ry : Row wr q m c' (strs Y)
  sx : ∀ s ∈ X, s.size ≤ 200
  sy : ∀ s ∈ Y, s.size ≤ 200
  ne : X ≠ Y
  same : Trees.clash X Y = Trees.clash x y
  row : wr.rowIs w.heap.size 54 2 (fun _ => .string ⟨#[]⟩)
  bel : Below w.heap.size w wr

theorem St.lenX {w wr : World} {x y : List ByteArray} {p q : Option Addr} {m c c' : Nat} {X Y : List ByteArray} (h : St w wr x y p q m c c' X Y) : X.length = m := by rw [← h.rx.1, Lists.strs_length]
theorem St.lenY {w wr : World} {x y : List ByteArray} {p q : Option Addr} {m c c' : Nat} {X Y : List ByteArray} (h : St w wr x y p q m c c' X Y) : Y.length = m := by rw [← h.ry.1, Lists.strs_length]

theorem St.left {w wr w1 : World} {x y : List ByteArray} {b1 o1 b2 o2 m c c' : Nat} {X Y : List ByteArray} (h : St w wr x y (some ⟨b1, o1, none⟩) (some ⟨b2, o2, none⟩) m c c' X Y) (h2 : 2 ≤ m) (b : Below wr.heap.size wr w1)
    (ht : Trees.top X (Trees.half m) = Trees.top Y (Trees.half m)) (he : ¬ X.take (Trees.half m) = Y.take (Trees.half m)) :
    St w w1 x y (some ⟨b1, o1, none⟩) (some ⟨b2, o2, none⟩) (Trees.half m) c c' (X.take (Trees.half m)) (Y.take (Trees.half m)) := by
  have hX := h.lenX
  have kl := Trees.half_lt m h2
  have kp := Trees.half_pos m
  have m2 := h.m2
  refine ⟨kp, by omega, ?_, ?_, fun s hs => h.sx s (List.mem_of_mem_take hs), fun s hs => h.sy s (List.mem_of_mem_take hs), he, ?_, ?_, bt h.bel b⟩
  · rw [Lists.strs_take]; exact (h.rx.below b).take _ (by omega)
  · rw [Lists.strs_take]; exact (h.ry.below b).take _ (by omega)
  · rw [← h.same, Trees.clash_left X Y (by omega) (by rw [hX]; exact ht) (by rw [hX]; exact he), hX]
  · exact h.row.of_block (b.block _ h.row.lt)
theorem St.right {w wr w1 : World} {x y : List ByteArray} {b1 o1 b2 o2 m c c' : Nat} {X Y : List ByteArray} (h : St w wr x y (some ⟨b1, o1, none⟩) (some ⟨b2, o2, none⟩) m c c' X Y) (h2 : 2 ≤ m) (b : Below wr.heap.size wr w1)
    (ht : Trees.top X (Trees.half m) = Trees.top Y (Trees.half m)) (he : X.take (Trees.half m) = Y.take (Trees.half m)) :
    St w w1 x y (some ⟨b1, o1 + Trees.half m, none⟩) (some ⟨b2, o2 + Trees.half m, none⟩) (m - Trees.half m) (c - Trees.half m) (c' - Trees.half m) (X.drop (Trees.half m)) (Y.drop (Trees.half m)) := by
  have hX := h.lenX
  have kl := Trees.half_lt m h2
  have kp := Trees.half_pos m
  have m2 := h.m2
  refine ⟨by omega, by omega, ?_, ?_, fun s hs => h.sx s (List.mem_of_mem_drop hs), fun s hs => h.sy s (List.mem_of_mem_drop hs), Trees.drop_ne h.ne he, ?_, ?_, bt h.bel b⟩
  · rw [Lists.strs_drop]; exact (h.rx.below b).drop _ (by omega)
  · rw [Lists.strs_drop]; exact (h.ry.below b).drop _ (by omega)
  · rw [← h.same, Trees.clash_right X Y (by omega) (by rw [hX]; exact ht) (by rw [hX]; exact he), hX]
  · exact h.row.of_block (b.block _ h.row.lt)

set_option maxHeartbeats 4000000 in
theorem clash_any (x y : List ByteArray) (a b : Option Addr) (n cap cap' : Nat) (w : World) (hn : n ≤ 200) (hn1 : 1 ≤ n) (hr : Row w a n cap (strs x)) (hs : Row w b n cap' (strs y)) (hx : ∀ s ∈ x, s.size ≤ 200) (hy : ∀ s ∈ y, s.size ≤ 200) (hne : x ≠ y) :
    Calls Tryz.prog 61 #[.slice a n cap, .slice b n cap'] w fun e w' => e = .returned (.agg #[.string (Trees.clash x y).1, .string (Trees.clash x y).2]) ∧ Below w.heap.size w w' := by
  have hmf : ∀ (fn : Fn) (first cap : Array Value) (w : World), (Instr.makeFunc fn first cap).run Tryz.prog w = .ok (.func fn first cap) w := fun _ _ _ _ => rfl
  have H0 : Hid (St w (w.alloc (.cells #[.string ⟨#[]⟩, .string ⟨#[]⟩] 54)) x y a b n cap cap' x y) := by
    have b0 : Below w.heap.size w (w.alloc (.cells #[.string ⟨#[]⟩, .string ⟨#[]⟩] 54)) := (Below.refl _ _).alloc (Nat.le_refl _) _
    exact ⟨hn1, hn, hr.below b0, hs.below b0, hx, hy, hne, rfl, World.rowIs_alloc w #[.string ⟨#[]⟩, .string ⟨#[]⟩] _ _ (fun i hi => by match i, hi with | 0, _ | 1, _ => rfl | i + 2, h => simp at h; omega), b0⟩
  clear hr hs hx hy hne
  go_enter Tryz.func61, Tryz.ntmps61
  go_wp2_with fail
  go_loopw [0, 1] (fun u v wr => ∃ (p q : Option Addr) (m c c' : Nat) (X Y : List ByteArray), u = .slice p m c ∧ v = .slice q m c' ∧ Hid (St w wr x y p q m c c' X Y)) (fun u _ _ => lenOf u)
  case atStart => exact ⟨a, b, n, cap, cap', x, y, rfl, rfl, H0⟩
  case round =>
    clear H0
    obtain ⟨p, q, m, c, c', X, Y, rfl, rfl, H⟩ := hrel
    obtain ⟨b1, o1, rfl, hc1⟩ := H.out.rx.2.2 H.out.m1
    obtain ⟨b2, o2, rfl, hc2⟩ := H.out.ry.2.2 H.out.m1
    by_cases h2 : 2 ≤ m
    · clear hc1 hc2
      have kl := Trees.half_lt m h2
      have kp := Trees.half_pos m
      have m2 := H.out.m2
      have hc := H.out.rx.2.1
      have hc' := H.out.ry.2.1
      have cS := fun w => WalkTree.split_any m w h2 m2
      have i0 : (1 : Int) < (m : Int) := by omega
      generalize hk : Trees.half m = k at kl kp cS
      have i1 : (k : Int) ≤ (c : Int) := by omega
      have i2 : (k : Int) ≤ (m : Int) := by omega
      have i3 : (k : Int) ≤ (c' : Int) := by omega
      have e1 : ¬ c = k := by omega
      have e2 : ¬ c' = k := by omega
      have HK : Hid (Trees.half m = k) := hk
      clear hk
      have ba : Below wr.heap.size wr (wr.alloc (.cells #[.int .i64 (k : Int)] 3)) := (Below.refl _ _).alloc (Nat.le_refl _) _
      have hkc : (wr.alloc (.cells #[.int .i64 (k : Int)] 3)).cell? ⟨wr.heap.size, 0, none⟩ = some (.int .i64 (k : Int)) := by simp
      have cA : ∀ w1, Below (wr.alloc (.cells #[.int .i64 (k : Int)] 3)).heap.size (wr.alloc (.cells #[.int .i64 (k : Int)] 3)) w1 →
          (Calls Tryz.prog 97 #[.slice (some ⟨b1, o1, none⟩) m c, .pointer (some ⟨wr.heap.size, 0, none⟩)] w1 fun e w' => e = .returned (.string (Trees.top X k)) ∧ Below w1.heap.size w1 w') ∧
          (Calls Tryz.prog 97 #[.slice (some ⟨b2, o2, none⟩) m c', .pointer (some ⟨wr.heap.size, 0, none⟩)] w1 fun e w' => e = .returned (.string (Trees.top Y k)) ∧ Below w1.heap.size w1 w') :=
        fun w1 b => ⟨WalkData.above_any X _ m c k _ w1 m2 kp kl (Lists.cell_below b hkc) (H.out.rx.below (bt ba b)) (fun s hs => Nat.le_trans (H.out.sx s hs) (by decide)),
          WalkData.above_any Y _ m c' k _ w1 m2 kp kl (Lists.cell_below b hkc) (H.out.ry.below (bt ba b)) (fun s hs => Nat.le_trans (H.out.sy s hs) (by decide))⟩
      have HA := cA
      have HC : Hid ((wr.alloc (.cells #[.int .i64 (k : Int)] 3)).cell? ⟨wr.heap.size, 0, none⟩ = some (.int .i64 (k : Int))) := hkc
      clear cA hkc
      go_wp2_with fail
      refine (cS _).mono ?_
      rintro e w' ⟨rfl, rfl⟩
      go_wp2_with fail
      refine (HA _ (Below.refl _ _)).1.mono ?_
      rintro e w1 ⟨rfl, bk⟩
      go_wp2_with fail
      refine (HA _ bk).2.mono ?_
      rintro e w2 ⟨rfl, bk2⟩
      replace bk := bt bk bk2
      have hkc := Lists.cell_below bk HC.out
      have b0 : Below w'.heap.size w' w2 := bt ba bk
      clear bk2 HA cS HC ba bk
      have hrow2 : Hid (w2.rowIs w.heap.size 54 2 (fun _ => .string ⟨#[]⟩)) := H.out.row.of_block (b0.block _ H.out.row.lt)
      have bw : Below w.heap.size w w2 := bt H.out.bel b0
      generalize w'.heap.size = g at hkc ⊢
      by_cases ht : Trees.top X k = Trees.top Y k
      · have hq : ((Trees.top X k).toList == (Trees.top Y k).toList) = true := by rw [ht]; exact WalkData.beq_yes _
        have hkc' := cell_regrown hkc
        have c3 : ∀ q os, Calls Tryz.prog 59 #[.slice (some ⟨b1, o1, none⟩) k c, .slice (some ⟨b2, o2, none⟩) k c'] (grow (redrawn w2 q) os) fun e w'' => e = .returned (.bool (decide (X.take k = Y.take k))) ∧ ∃ p : Regrown, w'' = grow (redrawn w2 p.d) p.os :=
          fun q os => Calls.regrown_of (WalkData.equal_any _ _ _ _ k k c c' _ (by rw [Lists.strs_take]; exact (H.out.rx.below (bt b0 (below_regrown w2 q os))).take k (by omega)) (by rw [Lists.strs_take]; exact (H.out.ry.below (bt b0 (below_regrown w2 q os))).take k (by omega)) (by omega))
        have HT : Hid (Trees.top X k = Trees.top Y k) := ht
        clear ht
        go_wp2_with fail
        refine wp_region_quiet_below (by kernel_rfl) (by kernel_rfl) ?_
        repeat (quiet_step (fail))
        quiet_step (exact c3 _ _)
        refine wpQuiet_nil ?_
        intro _ hw'
        obtain ⟨⟨dq, osq⟩, hw''⟩ := hw'
        subst hw''
        clear c3 hkc'
        have b3 := below_regrown w2 dq osq
        replace b0 := bt b0 b3
        replace hkc := Lists.cell_below b3 hkc
        clear b3 hrow2 bw
        generalize grow (redrawn w2 dq) osq = w3 at b0 hkc ⊢
        have hkc' := cell_regrown hkc
        by_cases he : X.take k = Y.take k
        · have hd : decide (X.take k = Y.take k) = true := decide_eq_true he
          have HE : Hid (X.take k = Y.take k) := he
          clear he
          rw [hd]
          clear hd
          go_wp2_with fail
          refine wp_region_quiet_below (by kernel_rfl) (by kernel_rfl) ?_
          repeat (quiet_step (fail))
          refine wpQuiet_nil ?_
          intro _ hw'
          obtain ⟨⟨dq, osq⟩, hw''⟩ := hw'
          subst hw''
          replace b0 := bt b0 (below_regrown w3 dq osq)
          generalize grow (redrawn w3 dq) osq = w4 at b0 ⊢
          clear hkc hkc'
          go_wp2_with fail
          go_roundw
          case rel => exact ⟨_, _, _, _, _, _, _, rfl, rfl, by rw [← HK.out]; exact H.out.right h2 b0 (by rw [HK.out]; exact HT.out) (by rw [HK.out]; exact HE.out)⟩
          case measure => simp [lenOf]; omega
        · have hd : decide (X.take k = Y.take k) = false := decide_eq_false he
          have HE : Hid (¬ X.take k = Y.take k) := he
          clear he
          rw [hd]
          clear hd
          go_wp2_with fail
          refine wp_region_quiet_below (by kernel_rfl) (by kernel_rfl) ?_
          repeat (quiet_step (fail))
          refine wpQuiet_nil ?_
          intro _ hw'
          obtain ⟨⟨dq, osq⟩, hw''⟩ := hw'
          subst hw''
          replace b0 := bt b0 (below_regrown w3 dq osq)
          generalize grow (redrawn w3 dq) osq = w4 at b0 ⊢
          clear hkc hkc'
          go_wp2_with fail
          go_roundw
          case rel => exact ⟨_, _, _, _, _, _, _, rfl, rfl, by rw [← HK.out]; exact H.out.left h2 b0 (by rw [HK.out]; exact HT.out) (by rw [HK.out]; exact HE.out)⟩
          case measure => simp [lenOf]; omega
      · have hq := WalkData.beq_no ht
        have HE : Hid (Trees.clash x y = (Trees.top X k, Trees.top Y k)) := by
          have h := Trees.clash_here X Y (by rw [H.out.lenX]; exact h2) (by rw [H.out.lenX, HK.out]; exact ht)
          rw [H.out.same, H.out.lenX, HK.out] at h
          exact h
        have r0 := hrow2.out.cell (i := 0) (by omega)
        have r1 := hrow2.out.cell (i := 1) (by omega)
        have f0 := hrow2.out.frozen 0
        have f1 := hrow2.out.frozen 1
        have HR : Hid (((w2.setCell ⟨w.heap.size, 0, none⟩ (.string (Trees.top X k))).setCell ⟨w.heap.size, 1, none⟩ (.string (Trees.top Y k))).heap[w.heap.size]? = some (.cells #[.string (Trees.top X k), .string (Trees.top Y k)] 54 (0, 0))) :=
          row_two ((hrow2.out.set 0 _).set 1 _)
        clear hkc H HK ht hrow2 b0
        go_wp2_with fail
        try simp only [Exit.inBlock, Exit.then]
        refine bodyPost_ret (ret_pair _ rfl HR.out) rfl ⟨?_, ?_⟩
        · rw [HE.out]
        · exact (bw.setCell (Nat.le_refl _) _).setCell (Nat.le_refl _) _
    · obtain rfl : m = 1 := by have := H.out.m1; omega
      have c1 : wr.cell? ⟨b1, o1, none⟩ = some (.string (X.getD 0 ByteArray.empty)) := by
        have := hc1 0 _ (Lists.strs_at (by rw [H.out.lenX]; omega))
        simpa using this
      have c2 : wr.cell? ⟨b2, o2, none⟩ = some (.string (Y.getD 0 ByteArray.empty)) := by
        have := hc2 0 _ (Lists.strs_at (by rw [H.out.lenY]; omega))
        simpa using this
      have HE : Hid (Trees.clash x y = (Nums.str (0 :: (X.getD 0 ByteArray.empty).data.toList), Nums.str (0 :: (Y.getD 0 ByteArray.empty).data.toList))) := by
        show _ = _
        rw [← H.out.same]
        exact Trees.clash_one X Y (by rw [H.out.lenX]; omega)
      have z1 : (X.getD 0 ByteArray.empty).size ≤ 200 := H.out.sx _ (by rw [List.getD_eq_getElem?_getD, List.getElem?_eq_getElem (by rw [H.out.lenX]; omega)]; exact List.getElem_mem _)
      have z2 : (Y.getD 0 ByteArray.empty).size ≤ 200 := H.out.sy _ (by rw [List.getD_eq_getElem?_getD, List.getElem?_eq_getElem (by rw [H.out.lenY]; omega)]; exact List.getElem_mem _)
      generalize X.getD 0 ByteArray.empty = s1 at c1 HE z1
      generalize Y.getD 0 ByteArray.empty = s2 at c2 HE z2
      have r0 := H.out.row.cell (i := 0) (by omega)
      have r1 := H.out.row.cell (i := 1) (by omega)
      have f0 := H.out.row.frozen 0
      have f1 := H.out.row.frozen 1
      have hrow := H.out.row
      have bw := H.out.bel
      clear hc1 hc2 h2 H
      have HR : Hid (((wr.setCell ⟨w.heap.size, 0, none⟩ (.string (Nums.str (0 :: s1.data.toList)))).setCell ⟨w.heap.size, 1, none⟩ (.string (Nums.str (0 :: s2.data.toList)))).heap[w.heap.size]? = some (.cells #[.string (Nums.str (0 :: s1.data.toList)), .string (Nums.str (0 :: s2.data.toList))] 54 (0, 0))) :=
        row_two ((hrow.set 0 _).set 1 _)
      clear hrow
      go_wp2_with fail
      go_region_with (go_at_call 98; refine (WalkData.leafBytes_any _ _ (by assumption)).mono ?_; rintro e w' ⟨rfl, rfl⟩)
      all_goals go_wp2_with fail
      all_goals (try simp only [Exit.inBlock, Exit.then])
      all_goals refine bodyPost_ret (ret_pair _ rfl HR.out) rfl ⟨by rw [HE.out], ((bw.setCell (Nat.le_refl _) _).setCell (Nat.le_refl _) _).drew⟩

end Go.Proofs.YthaibjidfgmdmahGreatDoor.WalkClash
