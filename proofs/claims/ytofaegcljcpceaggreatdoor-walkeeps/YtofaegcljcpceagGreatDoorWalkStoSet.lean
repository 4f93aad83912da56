/-
  A store of the call's own, and what package store's set does to it.
-/
import Derived.Test.YtofaegcljcpceagGreatDoorWalkStoIns
import Derived.Test.YtofaegcljcpceagGreatDoorWalkStoOwn
import Derived.Deep.RegionHeld
namespace Go.Proofs.YtofaegcljcpceagGreatDoor.WalkStoSet
open Go.RowKit
open Lists (bt)
open Keeps (Kept owns_kept owns_base)
open Wides (Wide owns_wide)
open Stores (Pair find keyE putE putL withP Rising)
open PairRows (cells cells_append cells_length)
open Spots (Spot)
open WalkStoFind (aggP sizeP There Found)
open WalkStoOwn (pairE)
open Errs (errv errv0 errv_pos)
open WideCopy (Lies owns_lies)

/-- block b holds a store with the pairs l; F are its blocks -/
structure St (w : World) (B b : Nat) (F : Nat → Prop) (l : List Pair) : Prop where
  core : ∃ v, w.rowIs b 107 1 (fun _ => v) ∧ w.ownsRow B 31 3 v l.length (cells l) ∧ v.ownBlock ≠ some b ∧ ∀ k, F k ↔ k = b ∨ v.ownBlock = some k
  above : B ≤ b
  rising : Rising l ∧ l.length ≤ 60

theorem St.foot {w : World} {B b : Nat} {F : Nat → Prop} {l : List Pair} (h : St w B b F l) : ∀ k, F k → B ≤ k ∧ k < w.heap.size := by
  obtain ⟨v, h1, h2, _, h4⟩ := h.core
  intro k hk
  rcases (h4 k).1 hk with rfl | hk
  · exact ⟨h.above, h1.lt⟩
  · exact h2.lt k hk
theorem St.kept {S : Nat → Prop} {w w' : World} {B b : Nat} {F : Nat → Prop} {l : List Pair} (h : St w B b F l) (k : Kept S w w') (hS : ∀ i, F i → ¬ S i) : St w' B b F l := by
  obtain ⟨v, h1, h2, h3, h4⟩ := h.core
  exact ⟨⟨v, h1.of_block (k.block b h1.lt (hS b ((h4 b).2 (.inl rfl)))), owns_kept h2 k fun i hi => hS i ((h4 i).2 (.inr hi)), h3, h4⟩, h.above, h.rising⟩
theorem St.below {w w' : World} {B b : Nat} {F : Nat → Prop} {l : List Pair} (h : St w B b F l) (k : Below w.heap.size w w') : St w' B b F l := h.kept (Kept.of_below (fun _ => False) k) fun _ _ q => q

/-! what is refused -/
theorem put_bad {l : List Pair} {p : Pair} (h : pairE p.key p.val ≠ 0) : putE l p = pairE p.key p.val ∧ putL l p = l := by
  have h1 : putE l p = pairE p.key p.val := by
    unfold pairE at h ⊢
    unfold putE keyE
    by_cases h0 : p.key.size = 0
    · simp [h0]
    · rw [if_neg h0] at h ⊢
      by_cases h2 : 200 < p.key.size
      · simp [h0, h2]
      · by_cases h3 : 200 < p.val.size
        · simp [h0, h2, h3]
        · simp [h2, h3] at h
  exact ⟨h1, by unfold putL; rw [if_neg (by rw [h1]; exact h)]⟩
theorem put_good {l : List Pair} {p : Pair} (h : pairE p.key p.val = 0) : p.key.size ≤ 200 ∧ p.val.size ≤ 200 ∧ (find l p.key = none ∧ 60 ≤ l.length → putE l p = 4 ∧ putL l p = l) ∧ (¬ (find l p.key = none ∧ 60 ≤ l.length) → putE l p = 0 ∧ putL l p = withP l p) := by
  unfold pairE at h
  split at h
  · cases h
  · rename_i h0
    split at h
    · cases h
    · rename_i h1
      have hk : keyE p.key = 0 := by unfold keyE; rw [if_neg h0, if_neg (by omega)]
      refine ⟨by omega, by omega, fun hf => ?_, fun hf => ?_⟩
      · have : putE l p = 4 := by unfold putE; rw [if_neg (by omega), if_pos (.inr hf)]
        exact ⟨this, by unfold putL; rw [if_neg (by omega)]⟩
      · have : putE l p = 0 := by
          unfold putE
          rw [if_neg (by omega), if_neg]
          rintro (h2 | h2)
          · omega
          · exact hf h2
        exact ⟨this, by unfold putL; rw [if_pos this]⟩
theorem cells_set (l : List Pair) (i : Nat) (hi : i < l.length) (p : Pair) : (((cells l).set (i * 3) (.string p.key)).set (i * 3 + 1) (.string p.val)).set (i * 3 + 2) (.bool p.gone) = cells (l.set i p) := by
  induction l generalizing i with
  | nil => cases hi
  | cons q l ih =>
    cases i with
    | zero => rfl
    | succ i =>
      have e : (i + 1) * 3 = i * 3 + 3 := by omega
      rw [e]
      exact congrArg (fun t => Value.string q.key :: Value.string q.val :: Value.bool q.gone :: t) (ih i (Nat.lt_of_succ_lt_succ hi))

theorem keep3 (w : World) {g j k m : Nat} {p : Addr} (u1 u2 u3 : Value) (h : ¬ p.block = g) : (((w.setCell ⟨g, j, none⟩ u1).setCell ⟨g, k, none⟩ u2).setCell ⟨g, m, none⟩ u3).cell? p = w.cell? p :=
  ((World.cell?_of_block (w := (w.setCell ⟨g, j, none⟩ u1).setCell ⟨g, k, none⟩ u2) (Below.heap_setCell _ _ _ _ h)).trans (World.cell?_of_block (w := w.setCell ⟨g, j, none⟩ u1) (Below.heap_setCell _ _ _ _ h))).trans (World.cell?_of_block (w := w) (Below.heap_setCell _ _ _ _ h))

theorem keep1 (w : World) {g j : Nat} {p : Addr} (u : Value) (h : ¬ p.block = g) : (w.setCell ⟨g, j, none⟩ u).cell? p = w.cell? p := World.cell?_of_block (w := w) (Below.heap_setCell _ _ _ _ h)
theorem keepA {w : World} {o : Obj} {p q r : Addr} {x y z : Value} (h1 : w.cell? p = some x) (h2 : w.cell? q = some y) (h3 : w.cell? r = some z) : (w.alloc o).cell? p = some x ∧ (w.alloc o).cell? q = some y ∧ (w.alloc o).cell? r = some z := by
  rw [World.cell?_alloc_lt _ _ _ (Lists.block_lt h1), World.cell?_alloc_lt _ _ _ (Lists.block_lt h2), World.cell?_alloc_lt _ _ _ (Lists.block_lt h3)]
  exact ⟨h1, h2, h3⟩

/-- what set leaves -/
def Done (w : World) (B b : Nat) (F : Nat → Prop) (l : List Pair) (p : Pair) (e : Ending) (w' : World) : Prop :=
  e = .returned (errv (putE l p)) ∧ ∃ F', St w' B b F' (putL l p) ∧ Kept F w w' ∧ ∀ k, F' k → F k ∨ w.heap.size ≤ k

set_option maxHeartbeats 8000000 in
set_option maxRecDepth 100000 in
theorem set_any {w : World} {B b : Nat} {F : Nat → Prop} {l : List Pair} (h : St w B b F l) (x y : ByteArray) (z : Bool) (hx : x.size ≤ maxLen) (hy : y.size ≤ maxLen) :
    Calls Tryz.prog 93 #[.pointer (some ⟨b, 0, none⟩), .agg #[.string x, .string y, .bool z]] w fun e w' => Done w B b F l ⟨x, y, z⟩ e w' := by
  have a26 := aggP
  have z26 := sizeP
  have HS : Hid (St w B b F l) := h
  have cC := fun w1 => WalkStoOwn.check_any x y z w1 hx hy
  clear hx hy h
  go_enter Tryz.func93, Tryz.ntmps93
  go_upto_region 1 with fail
  have b0 : Below w.heap.size w (w.alloc (.cells #[.string x, .string y, .bool z] 31)) := (Below.refl _ _).alloc (Nat.le_refl _) _
  have k0 : (w.alloc (.cells #[.string x, .string y, .bool z] 31)).cell? ⟨w.heap.size, 0, none⟩ = some (.string x) := by simp
  have k1 : (w.alloc (.cells #[.string x, .string y, .bool z] 31)).cell? ⟨w.heap.size, 1, none⟩ = some (.string y) := by simp
  have k2 : (w.alloc (.cells #[.string x, .string y, .bool z] 31)).cell? ⟨w.heap.size, 2, none⟩ = some (.bool z) := by simp
  generalize w.alloc (.cells #[.string x, .string y, .bool z] 31) = w0 at b0 k0 k1 k2 ⊢
  have HP : Hid (∀ w', Below w0.heap.size w0 w' → w'.cell? ⟨w.heap.size, 0, none⟩ = some (.string x) ∧ w'.cell? ⟨w.heap.size, 1, none⟩ = some (.string y) ∧ w'.cell? ⟨w.heap.size, 2, none⟩ = some (.bool z)) := fun w' b => ⟨Lists.cell_below b k0, Lists.cell_below b k1, Lists.cell_below b k2⟩
  have HB0 : Hid (Below w.heap.size w w0) := b0
  have HPL : Hid (w.heap.size < w0.heap.size) := Lists.block_lt k0
  clear b0
  go_wp2_with fail
  refine (cC _).mono ?_
  rintro e w1 ⟨rfl, b1⟩
  have HB1 : Hid (Below w0.heap.size w0 w1) := b1
  clear b1 k0 k1 k2 cC
  by_cases hE : pairE x y = 0
  rotate_left
  · -- refused at once
    obtain ⟨e1, e2⟩ := put_bad (l := l) (p := ⟨x, y, z⟩) hE
    have FIN : Hid (Done w B b F l ⟨x, y, z⟩ (.returned (errv (pairE x y))) w1) := by
      have bw := bt HB0.out HB1.out
      refine ⟨by rw [e1], F, by rw [e2]; exact HS.out.below bw, Kept.of_below _ bw, fun k hk => .inl hk⟩
    rw [errv_pos _ hE] at FIN ⊢
    clear e1 e2 hE
    go_wp2_with fail
    go_ret
    exact FIN.out
  rw [hE, errv0]
  obtain ⟨g1, g2, g3, g4⟩ := put_good (l := l) (p := ⟨x, y, z⟩) hE
  simp only at g1 g2
  have HG3 : Hid (find l x = none ∧ 60 ≤ l.length → putE l ⟨x, y, z⟩ = 4 ∧ putL l ⟨x, y, z⟩ = l) := g3
  have HG4 : Hid (¬ (find l x = none ∧ 60 ≤ l.length) → putE l ⟨x, y, z⟩ = 0 ∧ putL l ⟨x, y, z⟩ = withP l ⟨x, y, z⟩) := g4
  have HCP : Hid (∀ w1, Calls Tryz.prog 99 #[.agg #[.string x, .string y, .bool z]] w1 fun e w' => e = .returned (.agg #[.string x, .string y, .bool z]) ∧ Below w1.heap.size w1 w') := fun w1 => WalkStoOwn.copy_any x y z w1 g1 g2
  clear g1 g2 g3 g4 hE
  have bw1 := bt HB0.out HB1.out
  have hS1 := HS.out.below bw1
  obtain ⟨v, r1, o1, ap, hF⟩ := hS1.core
  have hris := hS1.rising
  have hlen := hris.2
  obtain ⟨a, cap, rfl, hw⟩ := owns_wide o1
  have cF := WalkStoFind.find_any l x b a l.length cap w1 (r1.cell (i := 0) (by omega)) hw (by omega) hris.1
  obtain ⟨c0, c1, c2⟩ := HP.out _ HB1.out
  have HRi : Hid (Rising l ∧ l.length ≤ 60) := hris
  have HO1 : Hid (w1.ownsRow B 31 3 (.slice a l.length cap) l.length (cells l)) := o1
  have HR1 : Hid (w1.rowIs b 107 1 (fun _ => .slice a l.length cap)) := r1
  have HF : Hid (∀ k, F k ↔ k = b ∨ (Value.slice a l.length cap).ownBlock = some k) := hF
  have HAP : Hid ((Value.slice a l.length cap).ownBlock ≠ some b) := ap
  have HBw : Hid (Below w.heap.size w w1) := bw1
  have HAB : Hid (B ≤ b) := hS1.above
  clear hw hris r1 o1 ap hF bw1 hS1
  go_wp2_with fail
  refine cF.mono ?_
  rintro e w2 ⟨i, r, rfl, hsp, hth, b2⟩
  have HB2 : Hid (Below w1.heap.size w1 w2) := b2
  have HSP : Hid (Spot l x i) := hsp
  clear b2 hsp cF c0 c1 c2
  rcases hth with ⟨rfl, hil, hkey⟩ | ⟨rfl, hno⟩
  · -- it is there
    obtain ⟨e1, e2⟩ := HG4.out fun hh => by rw [HSP.out.find_yes hil hkey] at hh; cases hh.1
    have hwith := HSP.out.with_yes (p := ⟨x, y, z⟩) hil hkey
    obtain ⟨g, cap', R, hv, hgB, _, hnc, _⟩ := owns_lies HO1.out (by omega)
    obtain ⟨rfl, rfl⟩ : a = some ⟨g, 0, none⟩ ∧ cap = cap' := by simpa using hv
    have hFg : F g := (HF.out g).2 (.inr rfl)
    have hgw : g < w.heap.size := (HS.out.foot g hFg).2
    have hgb : ¬ b = g := fun e => HAP.out (by rw [e]; rfl)
    have hgP : ¬ w.heap.size = g := by omega
    have HSTO : Hid (∀ w3, Below w2.heap.size w2 w3 → Done w B b F l ⟨x, y, z⟩ (.returned (errv 0)) (((w3.setCell ⟨g, i * 3, none⟩ (.string x)).setCell ⟨g, i * 3 + 1, none⟩ (.string y)).setCell ⟨g, i * 3 + 2, none⟩ (.bool z))) := by
      intro w3 b3
      have bw : Below w.heap.size w w3 := bt (bt HBw.out HB2.out) b3
      have o3 := owns_kept HO1.out (Kept.of_below (fun _ => False) (bt HB2.out b3)) fun _ _ q => q
      have r3 := HR1.out.of_block ((bt HB2.out b3).block b HR1.out.lt)
      have o4 := (((o3.stored (i * 3) (.string x)).1.stored (i * 3 + 1) (.string y)).1.stored (i * 3 + 2) (.bool z)).1
      have hcs : (((cells l).set (i * 3) (.string x)).set (i * 3 + 1) (.string y)).set (i * 3 + 2) (.bool z) = cells (l.set i ⟨x, y, z⟩) := cells_set l i hil ⟨x, y, z⟩
      rw [hcs] at o4
      refine ⟨by rw [e1], F, ⟨⟨_, ((r3.setOther hgb _).setOther hgb _).setOther hgb _, ?_, HAP.out, HF.out⟩, HAB.out, ?_⟩, ?_, fun k hk => .inl hk⟩
      · rw [e2, hwith, List.length_set]
        exact o4
      · exact ⟨Stores.rising_put _ HRi.out.1, Stores.put_length _ HRi.out.1 HRi.out.2⟩
      · exact (((Kept.of_below F bw).setCell (.inl hFg) _).setCell (.inl hFg) _).setCell (.inl hFg) _
    have HCE : Hid (∀ w3, Below w2.heap.size w2 w3 → ((w3.cell? ⟨g, i * 3, none⟩ = some (.string (l[i]).key) ∧ w3.cell? ⟨g, i * 3 + 1, none⟩ = some (.string (l[i]).val) ∧ w3.cell? ⟨g, i * 3 + 2, none⟩ = some (.bool (l[i]).gone)) ∧ (w3.frozen? ⟨g, i * 3, none⟩ = false ∧ w3.frozen? ⟨g, i * 3 + 1, none⟩ = false ∧ w3.frozen? ⟨g, i * 3 + 2, none⟩ = false)) ∧ w3.cell? ⟨b, 0, none⟩ = some (.slice (some ⟨g, 0, none⟩) l.length cap) ∧ w3.cell? ⟨w.heap.size, 0, none⟩ = some (.string x) ∧ w3.cell? ⟨w.heap.size, 1, none⟩ = some (.string y) ∧ w3.cell? ⟨w.heap.size, 2, none⟩ = some (.bool z)) := by
      intro w3 b3
      have o3 := owns_kept HO1.out (Kept.of_below (fun _ => False) (bt HB2.out b3)) fun _ _ q => q
      have t3 := PairRows.at_three (Wide.of_owns o3).2 i hil
      rw [Nat.zero_add] at t3
      exact ⟨⟨t3, o3.frozenAt _, o3.frozenAt _, o3.frozenAt _⟩, Lists.cell_below (bt HB2.out b3) (HR1.out.cell (i := 0) (by omega)), HP.out _ (bt HB1.out (bt HB2.out b3))⟩
    generalize l[i] = t at HCE hkey
    obtain ⟨t0, t1, t2⟩ := t
    simp only at HCE
    clear e1 e2 hwith hv hkey
    have i1 : (i : Int) < (l.length : Int) := by omega
    generalize l.length = N at HCE i1 hlen hnc HO1 HR1 HF HAP
    obtain ⟨_, d0, d1, d2, d3⟩ := HCE.out _ (Below.refl _ _)
    go_upto_region 7 with fail
    have dd0 : w2.drew.cell? ⟨b, 0, none⟩ = some (.slice (some ⟨g, 0, none⟩) N cap) := d0
    have dd1 : w2.drew.cell? ⟨w.heap.size, 0, none⟩ = some (.string x) := d1
    have dd2 : w2.drew.cell? ⟨w.heap.size, 1, none⟩ = some (.string y) := d2
    have dd3 : w2.drew.cell? ⟨w.heap.size, 2, none⟩ = some (.bool z) := d3
    clear d0 d1 d2 d3
    go_region_held (fun w' => w'.cell? ⟨b, 0, none⟩ = some (.slice (some ⟨g, 0, none⟩) N cap) ∧ w'.cell? ⟨w.heap.size, 0, none⟩ = some (.string x) ∧ w'.cell? ⟨w.heap.size, 1, none⟩ = some (.string y) ∧ w'.cell? ⟨w.heap.size, 2, none⟩ = some (.bool z)) (first | go_keep | (rw [keep3 _ _ _ _ hgb, keep3 _ _ _ _ hgP, keep3 _ _ _ _ hgP, keep3 _ _ _ _ hgP]; exact ⟨d0, d1, d2, d3⟩))
      (first | (go_at_call 99; refine (HCP.out _).mono ?_; rintro e w3 ⟨rfl, b3⟩; have HB3 : Hid (Below w2.heap.size w2 w3) := bt (Below.refl _ w2).drew b3; obtain ⟨⟨⟨q0, q1, q2⟩, f0, f1, f2⟩, d0, d1, d2, d3⟩ := HCE.out _ HB3.out; clear b3))
    have FIN := HSTO.out _ HB3.out
    clear HCE HSTO dd0 dd1 dd2 dd3 q0 q1 q2 f0 f1 f2 d0 d1 d2 d3
    go_wp2_with fail
    go_ret
    exact FIN
  · by_cases hful : 60 ≤ l.length
    · -- no more
      obtain ⟨e1, e2⟩ := HG3.out ⟨HSP.out.find_no HRi.out.1 hno, hful⟩
      have FIN : Hid (Done w B b F l ⟨x, y, z⟩ (.returned (errv 4)) w2) := by
        have bw := bt HBw.out HB2.out
        refine ⟨by rw [e1], F, by rw [e2]; exact HS.out.below bw, Kept.of_below _ bw, fun k hk => .inl hk⟩
      have d0 : w2.cell? ⟨b, 0, none⟩ = some (.slice a l.length cap) := Lists.cell_below HB2.out (HR1.out.cell (i := 0) (by omega))
      have i1 : (60 : Int) ≤ (l.length : Int) := by omega
      clear e1 e2
      generalize l.length = N at d0 i1 hlen hful
      go_wp2_with fail
      go_ret
      exact FIN.out
    · -- one more
      obtain ⟨e1, e2⟩ := HG4.out fun hh => hful hh.2
      have hwith := HSP.out.with_no (p := ⟨x, y, z⟩) hno
      have HIN : Hid (∀ w3, Below w2.heap.size w2 w3 → Calls Tryz.prog 100 #[.slice a l.length cap, .int .i64 (i : Int), .slice (some ⟨w3.heap.size, 0, none⟩) 1 1] (w3.alloc (.cells #[.string x, .string y, .bool z] 31)) fun e w' => WalkStoIns.Put l ⟨x, y, z⟩ i B (.slice a l.length cap) (w3.alloc (.cells #[.string x, .string y, .bool z] 31)) e w') := by
        intro w3 b3
        have o3 := owns_kept HO1.out (Kept.of_below (fun _ => False) (bt HB2.out b3)) fun _ _ q => q
        have lt3 := fun k hk => (o3.lt k hk).2
        have hB3 : B ≤ w3.heap.size := by
          have h1 := HR1.out.lt
          have h2 := (bt HB2.out b3).size
          have h3 := HAB.out
          omega
        refine WalkStoIns.insert_any l ⟨x, y, z⟩ _ B w3.heap.size i _ (o3.alloc _) HSP.out.le (by omega) (heap_alloc_new w3 _) (fun e => ?_) (by simp; omega)
        have := lt3 _ e
        omega
      have HFI : Hid (∀ w3 w4 v1, Below w2.heap.size w2 w3 → w4.ownsRow B 31 3 v1 (l.length + 1) (cells (l.take i ++ [⟨x, y, z⟩] ++ l.drop i)) → Kept (fun k => (Value.slice a l.length cap).ownBlock = some k) (w3.alloc (.cells #[.string x, .string y, .bool z] 31)) w4 → (∀ k, v1.ownBlock = some k → (Value.slice a l.length cap).ownBlock = some k ∨ (w3.alloc (.cells #[.string x, .string y, .bool z] 31)).heap.size ≤ k) →
          (∀ j u, w3.cell? ⟨w.heap.size, j, none⟩ = some u → w4.cell? ⟨w.heap.size, j, none⟩ = some u) ∧ w4.rowIs b 107 1 (fun _ => .slice a l.length cap) ∧ Done w B b F l ⟨x, y, z⟩ (.returned (errv 0)) (w4.setCell ⟨b, 0, none⟩ v1)) := by
        intro w3 w4 v1 b3 o4 k4 n4
        have bw3 : Below w1.heap.size w1 w3 := bt HB2.out b3
        have bw : Below w.heap.size w w3 := bt HBw.out bw3
        have hb1 := HR1.out.lt
        have hb3 : b < w3.heap.size := Nat.lt_of_lt_of_le hb1 bw3.size
        have r3 := HR1.out.of_block (bw3.block b hb1)
        have r4 := (r3.alloc (.cells #[.string x, .string y, .bool z] 31)).of_block (k4.block b (by simp; omega) HAP.out)
        have nb : v1.ownBlock ≠ some b := fun e => by
          rcases n4 b e with h | h
          · exact HAP.out h
          · simp at h
            omega
        have kw : Kept F w w4 := ((Kept.of_below F bw).alloc _).trans k4 fun k hk => .inl ((HF.out k).2 (.inr hk))
        have hP : ∀ j u, w3.cell? ⟨w.heap.size, j, none⟩ = some u → w4.cell? ⟨w.heap.size, j, none⟩ = some u := fun j u hj => by
          have h3 : w.heap.size < w3.heap.size := Lists.block_lt hj
          rw [k4.cell (p := ⟨w.heap.size, j, none⟩) (by simp; omega) (fun e => by have := (HS.out.foot _ ((HF.out _).2 (.inr e))).2; exact absurd this (by simp)), World.cell?_alloc_lt _ _ ⟨w.heap.size, j, none⟩ h3]
          exact hj
        refine ⟨hP, r4, by rw [e1], fun k => k = b ∨ v1.ownBlock = some k, ⟨⟨v1, ?_, ?_, nb, fun k => Iff.rfl⟩, HAB.out, ?_⟩, kw.setCell (.inl ((HF.out b).2 (.inl rfl))) _, ?_⟩
        · exact (r4.set 0 v1).congr fun j hj => by rw [if_pos (by omega)]
        · rw [e2, hwith]
          have hln : (l.take i ++ [(⟨x, y, z⟩ : Pair)] ++ l.drop i).length = l.length + 1 := by
            have := HSP.out.le
            simp
            omega
          rw [hln]
          exact owns_kept o4 ((Kept.refl (fun k => k = b) w4).setCell (.inl rfl) _) fun k hk e => nb (by rw [← e]; exact hk)
        · exact ⟨Stores.rising_put _ HRi.out.1, Stores.put_length _ HRi.out.1 HRi.out.2⟩
        · rintro k (rfl | hk)
          · exact .inl ((HF.out _).2 (.inl rfl))
          · rcases n4 k hk with h | h
            · exact .inl ((HF.out k).2 (.inr h))
            · have := bw.size
              simp at h
              exact .inr (by omega)
      have HCE : Hid (∀ w3, Below w2.heap.size w2 w3 → w3.cell? ⟨b, 0, none⟩ = some (.slice a l.length cap) ∧ w3.cell? ⟨w.heap.size, 0, none⟩ = some (.string x) ∧ w3.cell? ⟨w.heap.size, 1, none⟩ = some (.string y) ∧ w3.cell? ⟨w.heap.size, 2, none⟩ = some (.bool z)) := fun w3 b3 => ⟨Lists.cell_below (bt HB2.out b3) (HR1.out.cell (i := 0) (by omega)), HP.out _ (bt HB1.out (bt HB2.out b3))⟩
      have i1 : ¬ (60 : Int) ≤ (l.length : Int) := by omega
      have hbP : ¬ w.heap.size = b := by have := (HS.out.foot b ((HF.out b).2 (.inl rfl))).2; omega
      clear e1 e2 hwith hno hful HR1 HF HAP HO1
      generalize hN : l.length = N at HCE i1 hlen HIN HFI
      have HN : Hid (l.length = N) := hN
      clear hN
      obtain ⟨d0, d1, d2, d3⟩ := HCE.out _ (Below.refl _ _)
      go_upto_region 5 with fail
      have dd0 : w2.drew.cell? ⟨b, 0, none⟩ = some (.slice a N cap) := d0
      have dd1 : w2.drew.cell? ⟨w.heap.size, 0, none⟩ = some (.string x) := d1
      have dd2 : w2.drew.cell? ⟨w.heap.size, 1, none⟩ = some (.string y) := d2
      have dd3 : w2.drew.cell? ⟨w.heap.size, 2, none⟩ = some (.bool z) := d3
      clear d0 d1 d2 d3
      go_region_with
        (first | (go_at_call 99; refine (HCP.out _).mono ?_; rintro e w3 ⟨rfl, b3⟩; have HB3 : Hid (Below w2.heap.size w2 w3) := bt (Below.refl _ w2).drew b3; obtain ⟨d0, d1, d2, d3⟩ := HCE.out _ HB3.out; have dA : (w3.alloc (.cells #[.string x, .string y, .bool z] 31)).cell? ⟨b, 0, none⟩ = some (.slice a N cap) := (World.cell?_alloc_lt _ _ _ (Lists.block_lt d0)).trans d0; clear b3) | (go_at_call 100; refine (HIN.out _ HB3.out).mono ?_; rintro e w4 ⟨v1, rfl, o4, k4, n4⟩; rw [HN.out] at o4; obtain ⟨hp4, r4, FIN⟩ := HFI.out _ _ _ HB3.out o4 k4 n4; have p1 := hp4 _ _ d1; have p2 := hp4 _ _ d2; have p3 := hp4 _ _ d3; clear hp4; have HFIN : Hid (Done w B b F l ⟨x, y, z⟩ (.returned (errv 0)) (w4.setCell ⟨b, 0, none⟩ v1)) := FIN; have q0 : w4.cell? ⟨b, 0, none⟩ = some (.slice a N cap) := r4.cell (i := 0) (by omega); have f0 := r4.frozen 0; obtain ⟨a1, cp1, rfl, ww⟩ := owns_wide o4; clear ww o4 k4 n4 r4 FIN))
      all_goals (clear HCE HIN HFI dd0 dd1 dd2 dd3 p1 p2 p3 d0 d1 d2 d3 dA q0 f0; go_wp2_with fail; go_ret; exact HFIN.out)

end Go.Proofs.YtofaegcljcpceagGreatDoor.WalkStoSet
