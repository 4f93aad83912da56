/-
  What package prune does to a tree of the call's own, for every argument: New, Learn, Knows, Many, Prove, Forget.
-/
import Derived.Test.YticadkggaanbjaaGreatDoorWalkPrObj
import Derived.Test.YticadkggaanbjaaGreatDoorProofChk
import Derived.Laws.ResultCell
import Derived.BigRegion
import Derived.Deep.DeepMust
import Derived.Deep.CutBlock
import Derived.Lib.AppendZeros
import Derived.Maps.AppendAt
import Derived.Deep.RegionHeld3
set_option maxRecDepth 100000
namespace Go.Proofs.YticadkggaanbjaaGreatDoor.WalkPr
open Go.RowKit
open Lists (Row ints bt)
open Keeps (Kept owns_row owns_base)
open WalkCheck (errv errv0 errv_pos)
open WalkPrObj
open Prunes

theorem infoI : (Tryz.prog.info? 3).map (fun i => (i.zero, i.size, i.bytes)) = some (some (.int .i64 0), 1, 8) := by kernel_rfl
theorem aggL (w : World) : (isAgg 149).run Tryz.prog w = .ok true w := by kernel_rfl
theorem sizeL (w : World) : (sizeOf 149).run Tryz.prog w = .ok 2 w := by kernel_rfl

/-- append of nothing to nil is nil -/
theorem run_append_zero {P : Program} (w : World) (t ty e : TypeId) (i : TypeInfo) (ht : P.underlying t = some (.slice e)) (hi : P.info? e = some i) (a : Option Addr) (c : Nat) :
    (Builtin.append_ #[t, t] ty #[.slice none 0 0, .slice a 0 c]).run P w = .ok (.slice none 0 0) w := by
  cases a with
  | none => simp [Builtin.append_, run_underlying ht, sizeOf, typeInfo, hi, Builtin.lenOf, Builtin.firstCells]
  | some ad => simp [Builtin.append_, run_underlying ht, sizeOf, typeInfo, hi, Builtin.lenOf, Builtin.firstCells, loadCells, loadCellsFrom]

/-- a list, copied -/
theorem anew_any (l : List Int) (a : Option Addr) (n cap : Nat) (w : World) (hn : n ≤ 17592186043904) (hr : Row w a n cap (ints l)) :
    Calls Tryz.prog 103 #[.slice a n cap] w fun e w' => ∃ v, e = .returned v ∧ w'.ownsRow w.heap.size 3 1 v l.length (ints l) ∧ Below w.heap.size w w' := by
  have hln : l.length = n := by rw [← hr.1, Lists.ints_length]
  obtain ⟨i0, hi, hz0, hz1, hz2⟩ := info_parts infoI
  by_cases h0 : n = 0
  · subst h0
    obtain rfl : l = [] := List.length_eq_zero_iff.1 hln
    have r1 := run_append_zero (P := Tryz.prog) w 45 45 3 i0 Tryz.underlying45 hi a cap
    clear hr hln
    go_enter Tryz.func103, Tryz.ntmps103
    go_wp2_with (at_builtin; go_must (refine Lib.wpList_append_run _ rfl _ _ _ _ rfl _ _ rfl rfl _ _ r1 ?_))
    go_ret
    exact ⟨_, rfl, World.ownsRow_nil _ _ _ _, Below.refl _ _⟩
  · obtain ⟨b, off, rfl, hc⟩ := hr.2.2 (by omega)
    have hnews : ∀ j u, (ints l)[j]? = some u → w.cell? ((⟨b, off, none⟩ : Addr).add j) = some u := fun j u hj => by
      rw [show (⟨b, off, none⟩ : Addr).add j = ⟨b, off + j, none⟩ by (unfold Addr.add; split <;> simp_all)]
      exact hc j u hj
    have h1 : ∀ u ∈ ints l, u.oneCell' = true := fun u hu => by
      obtain ⟨x, _, rfl⟩ := List.mem_map.1 hu
      rfl
    have hlc : (ints l).length = n * 1 := by rw [Lists.ints_length, hln, Nat.mul_one]
    clear hr hc
    go_enter Tryz.func103, Tryz.ntmps103
    go_wp2_with (at_builtin; go_must (refine wpList_append_own _ rfl _ _ 45 rfl w.heap.size 3 i0 (.int .i64 0) 1 8 Tryz.underlying45 hi hz0 hz1 hz2 rfl (by decide) (.slice none 0 0) 0 [] rfl (World.ownsRow_nil _ _ _ _) ⟨b, off, none⟩ n cap (ints l) rfl hlc hnews h1 (by unfold maxLen; omega) (by omega) (Nat.le_refl _) ?_); intro v1 w1 o1 g1 _)
    go_ret
    rw [Nat.zero_add, List.nil_append] at o1
    refine ⟨v1, rfl, o1, (Below.refl _ w).grown g1 (Nat.le_refl _) (fun k hk => by cases hk)⟩

theorem load_leaf {w : World} {g : Nat} {s : Int} {a : Option Addr} {n c : Nat} (h0 : w.cell? ⟨g, 0, none⟩ = some (.int .i64 s)) (h1 : w.cell? ⟨g, 1, none⟩ = some (.slice a n c)) : (loadVar 149 ⟨g, 0, none⟩).run Tryz.prog w = .ok (lv s a n c) w :=
  run_loadVar_mid (P := Tryz.prog) w g 0 149 [.int .i64 s, .slice a n c] _ (fun j v hv => by
    match j, hv with
    | 0, hv => simp at hv; subst hv; exact h0
    | 1, hv => simp at hv; subst hv; exact h1) Tryz.underlying149 rfl (by kernel_rfl)
theorem ret_find {w : World} {g : Nat} {s : Int} {a : Option Addr} {n c : Nat} (tmps : Array Value) (hp : tmps.getD 4 undef = .pointer (some ⟨g, 0, none⟩)) (h0 : w.cell? ⟨g, 0, none⟩ = some (.int .i64 s)) (h1 : w.cell? ⟨g, 1, none⟩ = some (.slice a n c)) :
    (results Tryz.f104 tmps).run Tryz.prog w = .ok (.tuple #[lv s a n c, tmps.getD 5 undef]) w := by
  rw [results_cell_tmp rfl, hp]
  simp [asAddr, load_leaf h0 h1, Result.andThen]

/-- two cells of a leaf that are written -/
theorem two_set {w : World} {g : Nat} {x0 y0 : Value} (h0 : w.cell? ⟨g, 0, none⟩ = some x0) (h1 : w.cell? ⟨g, 1, none⟩ = some y0) (x y : Value) :
    ((w.setCell ⟨g, 0, none⟩ x).setCell ⟨g, 1, none⟩ y).cell? ⟨g, 0, none⟩ = some x ∧ ((w.setCell ⟨g, 0, none⟩ x).setCell ⟨g, 1, none⟩ y).cell? ⟨g, 1, none⟩ = some y := by
  have e : (w.setCell ⟨g, 0, none⟩ x).cell? ⟨g, 1, none⟩ = some y0 := (World.cell?_setCell_other w ⟨g, 0, none⟩ ⟨g, 1, none⟩ x (by simp)).trans h1
  exact ⟨(World.cell?_setCell_other _ ⟨g, 1, none⟩ ⟨g, 0, none⟩ y (by simp)).trans (World.cell?_setCell_same w ⟨g, 0, none⟩ x h0), World.cell?_setCell_same _ ⟨g, 1, none⟩ y e⟩

theorem known_in {k : Known} {Z : Nat} (h : Z < k.length) : (Prunes.has k Z = true → findE k Z = 0 ∧ knowsV k Z = sumOf k Z ∧ proveV k Z = proofOf k Z) ∧ (Prunes.has k Z = false → findE k Z = 5 ∧ knowsV k Z = 0 ∧ proveV k Z = []) := by
  refine ⟨fun e => ?_, fun e => ?_⟩
  · have : findE k Z = 0 := by
      unfold findE
      rw [if_pos ⟨by omega, by omega⟩, if_pos (by rw [Int.toNat_natCast]; exact e)]
    unfold knowsV proveV
    rw [if_pos this, if_pos this, Int.toNat_natCast]
    exact ⟨this, rfl, rfl⟩
  · have : findE k Z = 5 := by
      unfold findE
      rw [if_pos ⟨by omega, by omega⟩, if_neg (by rw [Int.toNat_natCast, e]; decide)]
    unfold knowsV proveV
    rw [this]
    exact ⟨rfl, rfl, rfl⟩
theorem known_out {k : Known} {i : Int} (h : ¬ (0 ≤ i ∧ i < (k.length : Int))) : findE k i = 1 ∧ knowsV k i = 0 ∧ proveV k i = [] := by
  have : findE k i = 1 := if_neg h
  unfold knowsV proveV
  rw [this]
  exact ⟨rfl, rfl, rfl⟩

set_option maxHeartbeats 1000000 in
theorem find_any {w : World} {B b : Nat} {F : Nat → Prop} {root : Int} {k : Known} (h : Pt w B b F root k) (i : Int) :
    Calls Tryz.prog 104 #[.pointer (some ⟨b, 0, none⟩), .int .i64 i] w fun e w' => ∃ a c, e = .returned (.tuple #[lv (knowsV k i) a (proveV k i).length c, errv (findE k i)]) ∧ Row w' a (proveV k i).length c (ints (proveV k i)) ∧ Below w.heap.size w w' := by
  obtain ⟨m, G, hb, hm, _, _, _⟩ := h.core
  have hsz := h.size
  have c0 : w.cell? ⟨b, 0, none⟩ = some (.int .i64 (k.length : Int)) := hb.cell (i := 0) (by omega)
  have c2 : w.cell? ⟨b, 2, none⟩ = some (.map (some m)) := hb.cell (i := 2) (by omega)
  have a49 := aggL
  have z49 := sizeL
  have b1 : Below w.heap.size w (w.alloc (.cells #[.int .i64 0, .slice none 0 0] 149)) := (Below.refl _ _).alloc (Nat.le_refl _) _
  have n0 : (w.alloc (.cells #[.int .i64 0, .slice none 0 0] 149)).cell? ⟨w.heap.size, 0, none⟩ = some (.int .i64 0) := by simp
  have n1 : (w.alloc (.cells #[.int .i64 0, .slice none 0 0] 149)).cell? ⟨w.heap.size, 1, none⟩ = some (.slice none 0 0) := by simp
  have nf : ∀ j, (w.alloc (.cells #[.int .i64 0, .slice none 0 0] 149)).frozen? ⟨w.heap.size, j, none⟩ = false := fun j => by simp
  have ns : w.heap.size < (w.alloc (.cells #[.int .i64 0, .slice none 0 0] 149)).heap.size := by simp
  replace c0 := Lists.cell_below b1 c0
  replace c2 := Lists.cell_below b1 c2
  have hbl := Lists.block_lt c0
  have hbm := b1.block m hm.lt
  by_cases hin : 0 ≤ i ∧ i < (k.length : Int)
  · obtain ⟨Z, rfl⟩ := Int.eq_ofNat_of_zero_le hin.1
    have hZ : Z < k.length := by omega
    obtain ⟨q1, q2⟩ := known_in hZ
    obtain ⟨v, hl0, hno, hyes⟩ := holds_look hm (i := Z) hZ (by omega)
    have hl := hl0 _ hbm
    generalize hN : k.length = N at *
    cases hh : Prunes.has k Z
    · obtain ⟨e1, e2, e3⟩ := q2 hh
      obtain ⟨s, a, n, c, rfl⟩ := hno hh
      rw [e1, e2, e3, errv_pos 5 (by decide)]
      rw [hh] at hl
      clear h hb hm hno hyes hh q1 q2 e1 e2 e3 hin hN hl0 hbm
      go_enter Tryz.func104, Tryz.ntmps104
      go_upto_region 1 with fail
      generalize w.alloc (.cells #[.int .i64 0, .slice none 0 0] 149) = w1 at b1 n0 n1 nf ns c0 c2 hl hbl ⊢
      unfold lv at hl
      go_wp2_with fail
      obtain ⟨k0, k1⟩ := two_set n0 n1 (.int .i64 0) (.slice none 0 0)
      have b2 : Below w1.heap.size ((w1.setCell ⟨w.heap.size, 0, none⟩ (.int .i64 0)).setCell ⟨w.heap.size, 1, none⟩ (.slice none 0 0)) (((w1.setCell ⟨w.heap.size, 0, none⟩ (.int .i64 0)).setCell ⟨w.heap.size, 1, none⟩ (.slice none 0 0)).alloc (.cells #[.int .i64 s, .slice a n c] 149)) := (Below.refl _ _).alloc (by simp) _
      refine bodyPost_ret (ret_find _ rfl ((b2.cell (p := ⟨w.heap.size, 0, none⟩) ns).trans k0) ((b2.cell (p := ⟨w.heap.size, 1, none⟩) ns).trans k1)) rfl ?_
      exact ⟨none, 0, rfl, Row.nil _ _ _, ((b1.setCell (Nat.le_refl _) _).setCell (Nat.le_refl _) _).alloc (by simp; omega) _⟩
    · obtain ⟨s, p, e⟩ := has_iff.1 hh
      obtain ⟨e1, e2, e3⟩ := q1 hh
      obtain ⟨a, c, hv, hrow, _⟩ := (hyes s p e).core
      injection hv with hv
      subst hv
      rw [(sum_of e).1] at e2
      rw [(sum_of e).2] at e3
      rw [e1, e2, e3, errv0]
      rw [hh] at hl
      have HRw : Hid (∀ w', Below w.heap.size w w' → Row w' a p.length c (ints p)) := fun w' b => hrow.below b
      clear h hb hm hno hyes hh q1 q2 e e1 e2 e3 hin hN hrow hl0 hbm
      generalize p.length = n at *
      go_enter Tryz.func104, Tryz.ntmps104
      go_upto_region 1 with fail
      generalize w.alloc (.cells #[.int .i64 0, .slice none 0 0] 149) = w1 at b1 n0 n1 nf ns c0 c2 hl hbl ⊢
      unfold lv at hl
      go_wp2_with fail
      obtain ⟨k0, k1⟩ := two_set n0 n1 (.int .i64 s) (.slice a n c)
      have b2 : Below w1.heap.size ((w1.setCell ⟨w.heap.size, 0, none⟩ (.int .i64 s)).setCell ⟨w.heap.size, 1, none⟩ (.slice a n c)) (((w1.setCell ⟨w.heap.size, 0, none⟩ (.int .i64 s)).setCell ⟨w.heap.size, 1, none⟩ (.slice a n c)).alloc (.cells #[.int .i64 s, .slice a n c] 149)) := (Below.refl _ _).alloc (by simp) _
      have b3 := ((b1.setCell (p := ⟨w.heap.size, 0, none⟩) (Nat.le_refl _) (.int .i64 s)).setCell (p := ⟨w.heap.size, 1, none⟩) (Nat.le_refl _) (.slice a n c)).alloc (by simp; omega) (.cells #[.int .i64 s, .slice a n c] 149)
      refine bodyPost_ret (ret_find _ rfl ((b2.cell (p := ⟨w.heap.size, 0, none⟩) ns).trans k0) ((b2.cell (p := ⟨w.heap.size, 1, none⟩) ns).trans k1)) rfl ?_
      exact ⟨a, c, rfl, HRw.out _ b3, b3⟩
  · obtain ⟨e1, e2, e3⟩ := known_out hin
    rw [e1, e2, e3, errv_pos 1 (by decide)]
    generalize (k.length : Int) = N at *
    clear h hb hm e1 e2 e3 hsz hbm
    by_cases hi0 : i < 0
    · go_enter Tryz.func104, Tryz.ntmps104
      go_upto_region 1 with fail
      generalize w.alloc (.cells #[.int .i64 0, .slice none 0 0] 149) = w1 at b1 n0 n1 nf ns c0 c2 hbl ⊢
      go_wp2_with fail
      obtain ⟨k0, k1⟩ := two_set n0 n1 (.int .i64 0) (.slice none 0 0)
      refine bodyPost_ret (ret_find _ rfl k0 k1) rfl ?_
      exact ⟨none, 0, rfl, Row.nil _ _ _, (b1.setCell (Nat.le_refl _) _).setCell (Nat.le_refl _) _⟩
    · have hi1 : N ≤ i := by omega
      go_enter Tryz.func104, Tryz.ntmps104
      go_upto_region 1 with fail
      generalize w.alloc (.cells #[.int .i64 0, .slice none 0 0] 149) = w1 at b1 n0 n1 nf ns c0 c2 hbl ⊢
      go_wp2_with fail
      obtain ⟨k0, k1⟩ := two_set n0 n1 (.int .i64 0) (.slice none 0 0)
      refine bodyPost_ret (ret_find _ rfl k0 k1) rfl ?_
      exact ⟨none, 0, rfl, Row.nil _ _ _, (b1.setCell (Nat.le_refl _) _).setCell (Nat.le_refl _) _⟩

/-- block g is a leaf, as it comes of find -/
theorem leaf_new (w : World) (s : Int) (a : Option Addr) (n c : Nat) : (w.alloc (.cells #[.int .i64 s, .slice a n c] 149)).cell? ⟨w.heap.size, 0, none⟩ = some (.int .i64 s) ∧ (w.alloc (.cells #[.int .i64 s, .slice a n c] 149)).cell? ⟨w.heap.size, 1, none⟩ = some (.slice a n c) := by simp

theorem knows_any {w : World} {B b : Nat} {F : Nat → Prop} {root : Int} {k : Known} (h : Pt w B b F root k) (i : Int) :
    Calls Tryz.prog 37 #[.pointer (some ⟨b, 0, none⟩), .int .i64 i] w fun e w' => e = .returned (.tuple #[.int .i64 (knowsV k i), errv (findE k i)]) ∧ Below w.heap.size w w' := by
  have cF := find_any h i
  have a49 := aggL
  have z49 := sizeL
  generalize knowsV k i = s at *
  generalize (proveV k i).length = n at *
  generalize errv (findE k i) = E at *
  clear h
  go_enter Tryz.func37, Tryz.ntmps37
  go_wp2_with fail
  refine cF.mono ?_
  rintro e w1 ⟨a, c, rfl, _, b1⟩
  unfold lv
  clear cF
  go_wp2_with fail
  go_ret2
  exact ⟨rfl, b1.alloc b1.size _⟩



theorem err_cmp (E : Nat) (w : World) : (binOp .neq 26 (errv E) .nilIface).run Tryz.prog w = .ok (.bool (E != 0)) w := by
  cases E with
  | zero => kernel_rfl
  | succ n => rw [errv_pos _ (Nat.succ_ne_zero n)]; kernel_rfl

theorem new_no (N root : Int) (w : World) (h : ¬ (1 ≤ N ∧ N ≤ 200 ∧ Nums.valid root = true)) :
    Calls Tryz.prog 34 #[.int .i64 N, .int .i64 root] w fun e w' => e = .returned (.tuple #[.pointer none, errv 1]) ∧ Below w.heap.size w w' := by
  rw [errv_pos 1 (by decide)]
  by_cases h0 : N < 1
  · clear h
    go_enter Tryz.func34, Tryz.ntmps34
    go_wp2_with fail
    go_ret2
    exact ⟨rfl, Below.refl _ _⟩
  by_cases h1 : 200 < N
  · clear h
    go_enter Tryz.func34, Tryz.ntmps34
    go_wp2_with fail
    go_ret2
    exact ⟨rfl, Below.refl _ _⟩
  have h2 : Nums.valid root = false := by
    cases e : Nums.valid root with
    | false => rfl
    | true => exact absurd ⟨by omega, by omega, e⟩ h
  have cV := WalkMix.isSum_no root w h2
  clear h h2
  go_enter Tryz.func34, Tryz.ntmps34
  go_wp2_with fail
  refine cV.mono ?_
  rintro e w1 ⟨rfl, rfl⟩
  clear cV
  go_wp2_with fail
  go_ret2
  exact ⟨rfl, Below.refl _ _⟩

theorem new_yes (N : Nat) (root : Int) (w : World) {B : Nat} (hB : B ≤ w.heap.size) (h0 : 1 ≤ N) (h1 : N ≤ 200) (h2 : Nums.valid root = true) :
    Calls Tryz.prog 34 #[.int .i64 (N : Int), .int .i64 root] w fun e w' => ∃ b F, e = .returned (.tuple #[.pointer (some ⟨b, 0, none⟩), .nilIface]) ∧ Pt w' B b F root (fresh N) ∧ (∀ j, F j → w.heap.size ≤ j) ∧ Below w.heap.size w w' := by
  have cV := WalkMix.isSum_yes root w h2
  clear h2
  go_enter Tryz.func34, Tryz.ntmps34
  go_wp2_with fail
  refine cV.mono ?_
  rintro e w1 ⟨rfl, rfl⟩
  clear cV
  have hmm := @run_makeMap Tryz.prog
  have bM : Below w1.heap.size w1 (w1.alloc (.map #[] 0)) := (Below.refl _ _).alloc (Nat.le_refl _) _
  have hm := holds_new w1 (fun _ => False) N
  go_wp2_with fail
  go_ret2
  have bT : Below (w1.alloc (.map #[] 0)).heap.size (w1.alloc (.map #[] 0)) ((w1.alloc (.map #[] 0)).alloc (.cells #[.int .i64 (N : Int), .int .i64 root, .map (some w1.heap.size)] 145)) := (Below.refl _ _).alloc (Nat.le_refl _) _
  have hs1 : (w1.alloc (.map #[] 0)).heap.size = w1.heap.size + 1 := by simp
  refine ⟨_, fun j => j = w1.heap.size ∨ j = w1.heap.size + 1, rfl, ⟨⟨w1.heap.size, fun _ => False, ?_, hm.kept (Kept.of_below (fun _ => False) bT) (fun z => z) (fun _ z => z.elim), .inr (by simp), .inl rfl, fun _ z => z.elim⟩, ?_, by rw [fresh_length]; omega⟩, ?_, bt bM bT⟩
  · rw [fresh_length]
    have hra := World.rowIs_alloc (w1.alloc (.map #[] 0)) #[.int .i64 (N : Int), .int .i64 root, .map (some w1.heap.size)] 145 (tc N root w1.heap.size) fun i hi => by
      match i, hi with
      | 0, _ => rfl
      | 1, _ => rfl
      | 2, _ => rfl
    rw [hs1] at hra
    exact hra
  · rintro j (rfl | rfl) <;> simp <;> omega
  · rintro j (rfl | rfl) <;> omega


end Go.Proofs.YticadkggaanbjaaGreatDoor.WalkPr
