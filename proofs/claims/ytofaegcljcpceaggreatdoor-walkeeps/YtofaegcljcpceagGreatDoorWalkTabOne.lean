/-
  What of package table a table is built of: check, appendText, appendPair, appendWord.
-/
import Derived.Test.YtofaegcljcpceagGreatDoorPlains
import Derived.Test.YtofaegcljcpceagGreatDoorPairRows
import Derived.Test.YtofaegcljcpceagGreatDoorErrs
import Derived.Test.YtofaegcljcpceagGreatDoorWalkMix
import Derived.Lib.AppendStr
import Derived.Deep.DeepMust
import Derived.Deep.CutBlock
namespace Go.Proofs.YtofaegcljcpceagGreatDoor.WalkTabOne
open Go.RowKit
open Lists (bt)
open Keeps (Kept owns_kept)
open Stores (Pair lt keyE)
open Tabs (fault one)
open Errs (errv errv0 errv_pos)
open Nums (str four)

theorem aggP (w : World) : (isAgg 31).run Tryz.prog w = .ok true w := by kernel_rfl
theorem sizeP (w : World) : (sizeOf 31).run Tryz.prog w = .ok 3 w := by kernel_rfl
theorem eq_yes {x y : ByteArray} (h : x = y) : (x.toList == y.toList) = true := by rw [h]; exact beq_self_eq_true _
theorem eq_no {x y : ByteArray} (h : x ≠ y) : (x.toList == y.toList) = false := by rw [beq_eq_false_iff_ne]; exact fun e => h (Stores.toList_inj e)
theorem empty_is {x : ByteArray} (h : x.size = 0) : x = ⟨#[]⟩ := by
  apply ByteArray.ext
  exact Array.size_eq_zero_iff.1 h
theorem empty_yes {x : ByteArray} (h : x.size = 0) : (x.toList == []) = true := by
  rw [empty_is h, ByteArray.toList_eq]
  rfl
theorem empty_no {x : ByteArray} (h : x.size ≠ 0) : (x.toList == []) = false := by
  rw [beq_eq_false_iff_ne, ByteArray.toList_eq]
  intro e
  have := congrArg List.length e
  simp at this
  exact h (by show x.data.size = 0; rw [this]; rfl)
theorem le_eq (x k : ByteArray) : (Op.bytesLess x.toList k.toList || x.toList == k.toList) = !lt k x := by
  cases h : lt x k with
  | true =>
    have h2 : Op.bytesLess x.toList k.toList = true := h
    rw [h2, Stores.lt_asymm h]
    rfl
  | false =>
    have h2 : Op.bytesLess x.toList k.toList = false := h
    rw [h2]
    by_cases e : x = k
    · subst e
      rw [Stores.lt_irrefl]
      simp
    · rw [eq_no e]
      cases h4 : lt k x with
      | true => rfl
      | false => exact absurd (Stores.lt_total h h4) e
theorem leq_run (x k : ByteArray) (r : Bool) (h : (!lt k x) = r) (w : World) : (binOp .leq 9 (.string x) (.string k)).run Tryz.prog w = .ok (.bool r) w := by
  have e : binOp .leq 9 (.string x) (.string k) = pure (.bool (Op.bytesLess x.toList k.toList || x.toList == k.toList)) := by simp [binOp, Op.stringOp]
  rw [e, le_eq, h]
  rfl

set_option maxHeartbeats 1000000 in
theorem check_any (x y : ByteArray) (z : Bool) (b : ByteArray) (w : World) (hx : x.size ≤ maxLen) (hy : y.size ≤ maxLen) :
    Calls Tryz.prog 61 #[.agg #[.string x, .string y, .bool z], .string b] w fun e w' => e = .returned (errv (fault (some b) ⟨x, y, z⟩)) ∧ Below w.heap.size w w' := by
  have HB : Hid (Below w.heap.size w (w.alloc (.cells #[.string x, .string y, .bool z] 31))) := (Below.refl _ _).alloc (Nat.le_refl _) _
  have mx : (x.size : Int) ≤ 9223372036854775807 := by unfold maxLen at hx; omega
  have my : (y.size : Int) ≤ 9223372036854775807 := by unfold maxLen at hy; omega
  clear hx hy
  by_cases h0 : x.size = 0
  · have HV : Hid (fault (some b) ⟨x, y, z⟩ = 2) := by show _ = _; unfold fault keyE; simp [h0]
    have e0 := empty_yes h0
    clear h0
    go_enter Tryz.func61, Tryz.ntmps61
    go_wp2_with fail
    go_ret
    exact ⟨by rw [HV.out]; rfl, HB.out⟩
  have e0 := empty_no h0
  by_cases h1 : 200 < x.size
  · have HV : Hid (fault (some b) ⟨x, y, z⟩ = 4) := by show _ = _; unfold fault keyE; simp [h0, h1]
    have i1 : (200 : Int) < (x.size : Int) := by omega
    clear h0 h1
    go_enter Tryz.func61, Tryz.ntmps61
    go_wp2_with fail
    go_ret
    exact ⟨by rw [HV.out]; rfl, HB.out⟩
  have i1 : ¬ (200 : Int) < (x.size : Int) := by omega
  have hk : keyE x = 0 := by unfold keyE; rw [if_neg h0, if_neg h1]
  by_cases h2 : 200 < y.size
  · have HV : Hid (fault (some b) ⟨x, y, z⟩ = 4) := by show _ = _; unfold fault; simp [hk, h2]
    have i2 : (200 : Int) < (y.size : Int) := by omega
    clear h0 h1 h2 hk
    go_enter Tryz.func61, Tryz.ntmps61
    go_wp2_with fail
    go_ret
    exact ⟨by rw [HV.out]; rfl, HB.out⟩
  have i2 : ¬ (200 : Int) < (y.size : Int) := by omega
  by_cases h3 : z = true ∧ y.size ≠ 0
  · have HV : Hid (fault (some b) ⟨x, y, z⟩ = 3) := by show _ = _; unfold fault; simp [hk, h2, h3]
    obtain ⟨rfl, h4⟩ := h3
    have e1 := empty_no h4
    clear h0 h1 h2 hk h4
    go_enter Tryz.func61, Tryz.ntmps61
    go_wp2_with fail
    go_ret
    exact ⟨by rw [HV.out]; rfl, HB.out⟩
  have hgo : z = false ∨ (z = true ∧ (y.toList == []) = true) := by
    cases z
    · exact .inl rfl
    · exact .inr ⟨rfl, empty_yes (Decidable.not_not.1 fun h => h3 ⟨rfl, h⟩)⟩
  cases hl : lt b x with
  | true =>
    have HV : Hid (fault (some b) ⟨x, y, z⟩ = 0) := by show _ = _; unfold fault; rw [if_neg (fun h => h hk), if_neg h2, if_neg h3]; simp [hl]
    have e2 := leq_run x b false (by rw [hl]; rfl)
    clear h0 h1 h2 h3 hk hl
    rcases hgo with rfl | ⟨rfl, e1⟩
    · go_enter Tryz.func61, Tryz.ntmps61
      go_wp2_with fail
      go_ret
      exact ⟨by rw [HV.out]; rfl, HB.out⟩
    · go_enter Tryz.func61, Tryz.ntmps61
      go_wp2_with fail
      go_ret
      exact ⟨by rw [HV.out]; rfl, HB.out⟩
  | false =>
    have HV : Hid (fault (some b) ⟨x, y, z⟩ = 7) := by show _ = _; unfold fault; rw [if_neg (fun h => h hk), if_neg h2, if_neg h3]; simp [hl]
    have e2 := leq_run x b true (by rw [hl]; rfl)
    clear h0 h1 h2 h3 hk hl
    rcases hgo with rfl | ⟨rfl, e1⟩
    · go_enter Tryz.func61, Tryz.ntmps61
      go_wp2_with fail
      go_ret
      exact ⟨by rw [HV.out]; rfl, HB.out⟩
    · go_enter Tryz.func61, Tryz.ntmps61
      go_wp2_with fail
      go_ret
      exact ⟨by rw [HV.out]; rfl, HB.out⟩

/-- bytes that the call owns -/
structure Has (base : Nat) (w : World) (v : Value) (L : List UInt8) : Prop where
  own : w.ownsRow base 5 1 v L.length (WalkMix.cells L)
  base : base ≤ w.heap.size
/-- the bytes lie in no pair's block -/
theorem Has.apart {base : Nat} {w : World} {v : Value} {L : List UInt8} {g : Nat} {f : Nat → Value} (h : Has base w v L) (hr : w.rowIs g 31 3 f) : v.ownBlock ≠ some g := by
  rcases h.own.2 with ⟨rfl, _⟩ | ⟨k, cap, cur, rfl, _, hh, _⟩
  · simp [Value.ownBlock]
  · intro e
    obtain rfl : k = g := by simpa [Value.ownBlock] using e
    obtain ⟨c, hc, _⟩ := hr
    rw [hh] at hc
    simp at hc
theorem one_at (w : World) (v : Value) (t : TypeId) : ∀ j u, [v][j]? = some u → (w.alloc (.cells #[v] t)).cell? ((⟨w.heap.size, 0, none⟩ : Addr).add j) = some u := by
  intro j u hj
  match j, hj with
  | 0, hj => simp at hj; subst hj; simp [Addr.add]
  | j + 1, hj => simp at hj
theorem one_cell (k : IntKind) (n : Int) : ∀ u ∈ [Value.int k n], u.oneCell' = true := by
  intro u hu
  simp at hu
  subst hu
  rfl
theorem u8_of (n : Nat) (h : n ≤ 200) : WalkMix.cells [UInt8.ofNat n] = [.int .u8 (n : Int)] := by
  simp only [WalkMix.cells, List.map_cons, List.map_nil, UInt8.toNat_ofNat', List.cons.injEq, Value.int.injEq, true_and, and_true]
  omega
/-- all that is not the call's own stays, and each pair in a block of its own -/
structure Still (base : Nat) (w w' : World) : Prop where
  below : Below base w w'
  pair : ∀ (g : Nat) (f : Nat → Value), w.rowIs g 31 3 f → w'.rowIs g 31 3 f
theorem Still.trans {base : Nat} {a b c : World} (h : Still base a b) (k : Still base b c) : Still base a c := ⟨h.below.trans k.below, fun g f hr => k.pair g f (h.pair g f hr)⟩
theorem Still.of_below {base : Nat} {w w' : World} (hb : base ≤ w.heap.size) (b : Below w.heap.size w w') : Still base w w' := ⟨b.mono hb, fun _ _ hr => hr.of_block (b.block _ hr.lt)⟩
/-- behind an append to the bytes -/
theorem Has.still {base : Nat} {w wn : World} {v : Value} {L : List UInt8} (h : Has base w v L) (g : w.grownBy wn v.ownBlock) : Still base w wn :=
  ⟨(Below.refl base w).grown g h.base (fun k hk => (h.own.lt k hk).1), fun k _ hr => hr.of_block (g.block k hr.lt fun e => h.apart hr e.symm)⟩
theorem Has.alloc {base : Nat} {w : World} {v : Value} {L : List UInt8} (h : Has base w v L) (o : Obj) : Has base (w.alloc o) v L := ⟨h.own.alloc o, by have := h.base; simp; omega⟩
theorem Has.kept {base : Nat} {w w' : World} {v : Value} {L : List UInt8} {S : Nat → Prop} (h : Has base w v L) (k : Kept S w w') (hS : ∀ i, v.ownBlock = some i → ¬ S i) : Has base w' v L := ⟨owns_kept h.own k hS, Nat.le_trans h.base k.size⟩

set_option maxHeartbeats 1000000 in
theorem appendText_own {base : Nat} {w : World} {v : Value} {L : List UInt8} (h : Has base w v L) (s : ByteArray) (hL : L.length ≤ 1000000000000) (hs : s.size ≤ 200) :
    Calls Tryz.prog 81 #[v, .string s] w fun e w' => ∃ v', e = .returned v' ∧ Has base w' v' (L ++ UInt8.ofNat s.size :: s.data.toList) ∧ Still base w w' := by
  obtain ⟨i0, hi, hz0, hz1, hz2⟩ := info_parts WalkMix.info5
  have HH : Hid (Has base w v L) := h
  have i1 : (s.size : Int) ≤ 200 := by omega
  clear h
  go_enter Tryz.func81, Tryz.ntmps81
  go_wp2_with (first
    | (at_builtin; refine wpList_append_own _ rfl (.tmp 5) (.tmp 9) 53 rfl base 5 i0 (.int .u8 0) 1 1 Tryz.underlying53 hi hz0 hz1 hz2 rfl (by decide) _ _ _ rfl (HH.out.own.alloc _) ⟨w.heap.size, 0, none⟩ 1 1 [.int .u8 (s.size : Int)] rfl rfl (one_at _ _ _) (one_cell _ _) (by unfold maxLen; omega) (by omega) (by have := HH.out.base; simp; omega) ?_; intro v1 w1 o1 g1 z1; clear z1)
    | (at_builtin; refine Lib.wpList_append_own_string _ rfl (.tmp 10) (.tmp 11) 53 9 rfl base 5 i0 Tryz.underlying53 Tryz.underlying9 hi hz0 hz1 hz2 _ _ _ rfl o1 s rfl (by unfold maxLen; omega) (by omega) (by have := g1.size; have := HH.out.base; simp at *; omega) ?_; intro v2 w2 o2 g2 z2; clear z2))
  have HG1 : Hid ((w.alloc (.cells #[.int .u8 (s.size : Int)] 5)).grownBy w1 v.ownBlock) := g1
  have HG2 : Hid (w1.grownBy w2 v1.ownBlock) := g2
  have HO1 : Hid (w1.ownsRow base 5 1 v1 (L.length + 1) (WalkMix.cells L ++ [.int .u8 (s.size : Int)])) := o1
  have HO : Hid (w2.ownsRow base 5 1 v2 (L.length + 1 + s.size) (WalkMix.cells L ++ [.int .u8 (s.size : Int)] ++ Lib.strCells s)) := o2
  clear g1 g2 o1 o2
  go_ret
  have s1 : Still base w w1 := (Still.of_below HH.out.base ((Below.refl _ w).alloc (Nat.le_refl _) _)).trans ((HH.out.alloc _).still HG1.out)
  have h1 : Has base w1 v1 (L ++ [UInt8.ofNat s.size]) := ⟨by rw [List.length_append, WalkMix.cells_append, u8_of _ hs]; exact HO1.out, Nat.le_trans HH.out.base s1.below.size⟩
  have s2 := h1.still HG2.out
  refine ⟨v2, rfl, ⟨?_, Nat.le_trans h1.base s2.below.size⟩, s1.trans s2⟩
  have e : WalkMix.cells (L ++ UInt8.ofNat s.size :: s.data.toList) = WalkMix.cells L ++ [.int .u8 (s.size : Int)] ++ Lib.strCells s := by
    rw [← u8_of _ hs, show L ++ UInt8.ofNat s.size :: s.data.toList = L ++ [UInt8.ofNat s.size] ++ s.data.toList by simp, WalkMix.cells_append, WalkMix.cells_append]
    rfl
  rw [e, List.length_append, List.length_cons, show s.data.toList.length = s.size from Array.length_toList, show L.length + (s.size + 1) = L.length + 1 + s.size by omega]
  exact HO.out

theorem one_eq (x y : ByteArray) (z : Bool) (L : List UInt8) : L ++ UInt8.ofNat x.size :: x.data.toList ++ [Tabs.mark z] ++ UInt8.ofNat y.size :: y.data.toList = L ++ one ⟨x, y, z⟩ := by simp [one]
/-- one byte more, as the walk appends it -/
theorem Has.mark {base : Nat} {w wn : World} {v v1 : Value} {L : List UInt8} {z : Bool} {o : Obj} (h : Has base w v L) (g : (w.alloc o).grownBy wn v.ownBlock) (ho : wn.ownsRow base 5 1 v1 (L.length + 1) (WalkMix.cells L ++ WalkMix.cells [Tabs.mark z])) :
    Has base wn v1 (L ++ [Tabs.mark z]) ∧ Still base w wn := by
  have s1 : Still base w wn := (Still.of_below h.base ((Below.refl _ w).alloc (Nat.le_refl _) o)).trans ((h.alloc _).still g)
  exact ⟨⟨by rw [List.length_append, WalkMix.cells_append]; exact ho, Nat.le_trans h.base s1.below.size⟩, s1⟩

set_option maxHeartbeats 1000000 in
theorem appendPair_own {base : Nat} {w : World} {v : Value} {L : List UInt8} (h : Has base w v L) (x y : ByteArray) (z : Bool) (hL : L.length ≤ 900000000000) (hx : x.size ≤ 200) (hy : y.size ≤ 200) :
    Calls Tryz.prog 62 #[v, .agg #[.string x, .string y, .bool z]] w fun e w' => ∃ v', e = .returned v' ∧ Has base w' v' (L ++ one ⟨x, y, z⟩) ∧ Still base w w' := by
  obtain ⟨i0, hi, hz0, hz1, hz2⟩ := info_parts WalkMix.info5
  have HH : Hid (Has base (w.alloc (.cells #[.string x, .string y, .bool z] 31)) v L) := h.alloc _
  have hR : (w.alloc (.cells #[.string x, .string y, .bool z] 31)).rowIs w.heap.size 31 3 (fun j => if j = 0 then .string x else if j = 1 then .string y else .bool z) := World.rowIs_alloc _ _ _ _ (fun j hj => by match j, hj with | 0, _ | 1, _ | 2, _ => rfl | j + 3, h => simp at h; omega)
  have HS : Hid (Still base w (w.alloc (.cells #[.string x, .string y, .bool z] 31))) := Still.of_below h.base ((Below.refl _ w).alloc (Nat.le_refl _) _)
  have HE : Hid (L ++ UInt8.ofNat x.size :: x.data.toList ++ [Tabs.mark z] ++ UInt8.ofNat y.size :: y.data.toList = L ++ one ⟨x, y, z⟩) := one_eq x y z L
  have hl1 : (L ++ UInt8.ofNat x.size :: x.data.toList).length ≤ 950000000000 := by rw [List.length_append, List.length_cons, show x.data.toList.length = x.size from Array.length_toList]; omega
  clear h
  go_enter Tryz.func62, Tryz.ntmps62
  go_wp2_with fail
  generalize w.alloc (.cells #[.string x, .string y, .bool z] 31) = w0 at HH hR HS ⊢
  refine (appendText_own HH.out x (by omega) hx).mono ?_
  rintro e w1 ⟨v1, rfl, h1, s1⟩
  have HR : Hid (w1.rowIs w.heap.size 31 3 (fun j => if j = 0 then .string x else if j = 1 then .string y else .bool z)) := s1.pair _ _ hR
  have HS1 : Hid (Still base w w1) := HS.out.trans s1
  have HH1 : Hid (Has base w1 v1 (L ++ UInt8.ofNat x.size :: x.data.toList)) := h1
  have r2 : w1.cell? ⟨w.heap.size, 2, none⟩ = some (.bool z) := HR.out.cell (i := 2) (by omega)
  clear s1 h1 hR HS HH
  generalize L ++ UInt8.ofNat x.size :: x.data.toList = L1 at HH1 HE hl1
  cases z with
  | true =>
    go_upto_region 5 with (at_builtin; go_must (refine wpList_append_own _ rfl (.tmp 11) (.tmp 12) 53 rfl base 5 i0 (.int .u8 0) 1 1 Tryz.underlying53 hi hz0 hz1 hz2 rfl (by decide) _ _ _ rfl (HH1.out.own.alloc _) ⟨w1.heap.size, 0, none⟩ 1 1 [.int .u8 1] rfl rfl (one_at _ _ _) (one_cell _ _) (by unfold maxLen; omega) (by omega) (by have := HH1.out.base; simp; omega) ?_); intro v2 w2 o2 g2 z2; clear z2)
    obtain ⟨h2, s2⟩ := HH1.out.mark (z := true) g2 o2
    have HR2 : Hid (w2.rowIs w.heap.size 31 3 (fun j => if j = 0 then .string x else if j = 1 then .string y else .bool true)) := s2.pair _ _ HR.out
    have HS2 : Hid (Still base w w2) := HS1.out.trans s2
    have r1 : w2.cell? ⟨w.heap.size, 1, none⟩ = some (.string y) := HR2.out.cell (i := 1) (by omega)
    clear o2 g2 s2 r2 HR
    go_wp2_with fail
    refine (appendText_own h2 y (by rw [List.length_append]; simp; omega) hy).mono ?_
    rintro e w3 ⟨v3, rfl, h3, s3⟩
    rw [HE.out] at h3
    have HS3 := HS2.out.trans s3
    clear h2 s3 r1
    go_wp2_with fail
    go_ret
    exact ⟨v3, rfl, h3, HS3⟩
  | false =>
    go_upto_region 5 with (at_builtin; go_must (refine wpList_append_own _ rfl (.tmp 14) (.tmp 15) 53 rfl base 5 i0 (.int .u8 0) 1 1 Tryz.underlying53 hi hz0 hz1 hz2 rfl (by decide) _ _ _ rfl (HH1.out.own.alloc _) ⟨w1.heap.size, 0, none⟩ 1 1 [.int .u8 0] rfl rfl (one_at _ _ _) (one_cell _ _) (by unfold maxLen; omega) (by omega) (by have := HH1.out.base; simp; omega) ?_); intro v2 w2 o2 g2 z2; clear z2)
    obtain ⟨h2, s2⟩ := HH1.out.mark (z := false) g2 o2
    have HR2 : Hid (w2.rowIs w.heap.size 31 3 (fun j => if j = 0 then .string x else if j = 1 then .string y else .bool false)) := s2.pair _ _ HR.out
    have HS2 : Hid (Still base w w2) := HS1.out.trans s2
    have r1 : w2.cell? ⟨w.heap.size, 1, none⟩ = some (.string y) := HR2.out.cell (i := 1) (by omega)
    clear o2 g2 s2 r2 HR
    go_wp2_with fail
    refine (appendText_own h2 y (by rw [List.length_append]; simp; omega) hy).mono ?_
    rintro e w3 ⟨v3, rfl, h3, s3⟩
    rw [HE.out] at h3
    have HS3 := HS2.out.trans s3
    clear h2 s3 r1
    go_wp2_with fail
    go_ret
    exact ⟨v3, rfl, h3, HS3⟩

set_option maxHeartbeats 1000000 in
theorem appendWord_own {base : Nat} {w : World} {v : Value} {L : List UInt8} (h : Has base w v L) (a : Int) (hL : L.length ≤ 1000000000000) (ha : Nums.valid a = true) :
    Calls Tryz.prog 63 #[v, .int .i64 a] w fun e w' => ∃ v', e = .returned v' ∧ Has base w' v' (L ++ four a) ∧ Still base w w' := by
  obtain ⟨h0, h1⟩ := Nums.valid_iff.1 ha
  obtain ⟨i0, hi, hz0, hz1, hz2⟩ := info_parts WalkMix.info5
  have HH : Hid (Has base w v L) := h
  clear ha h
  go_enter Tryz.func63, Tryz.ntmps63
  go_wp2_with (first
    | (at_builtin; refine wpList_append_own _ rfl (.tmp 5) (.tmp 17) 53 rfl base 5 i0 (.int .u8 0) 1 1 Tryz.underlying53 hi hz0 hz1 hz2 rfl (by decide) _ _ _ rfl (HH.out.own.alloc _) ⟨w.heap.size, 0, none⟩ 4 4 [.int .u8 (a / 16777216), .int .u8 (a / 65536 % 256), .int .u8 (a / 256 % 256), .int .u8 (a % 256)] rfl rfl ?c1 ?c2 ?c3 ?c4 ?c5 ?_))
  case c1 =>
    intro j u hj
    match j, hj with
    | 0, hj | 1, hj | 2, hj | 3, hj => all_goals (simp at hj; subst hj; simp [Addr.add])
    | j + 4, hj => simp at hj
  case c2 => intro u hu; simp at hu; rcases hu with rfl | rfl | rfl | rfl <;> rfl
  case c3 => unfold maxLen; omega
  case c4 => omega
  case c5 => have := HH.out.base; simp; omega
  intro v1 w1 o1 g1 z1
  have HG : Hid ((w.alloc (.cells #[.int .u8 (a / 16777216), .int .u8 (a / 65536 % 256), .int .u8 (a / 256 % 256), .int .u8 (a % 256)] 5)).grownBy w1 v.ownBlock) := g1
  have HO : Hid (w1.ownsRow base 5 1 v1 (L.length + 4) (WalkMix.cells L ++ WalkMix.cells (four a))) := by rw [WalkMix.cells_four a ⟨h0, h1⟩]; exact o1
  clear g1 o1 z1
  go_wp2_with fail
  go_ret
  have s1 : Still base w w1 := (Still.of_below HH.out.base ((Below.refl _ w).alloc (Nat.le_refl _) _)).trans ((HH.out.alloc _).still HG.out)
  exact ⟨v1, rfl, ⟨by rw [List.length_append, WalkMix.cells_append]; exact HO.out, Nat.le_trans HH.out.base s1.below.size⟩, s1⟩

end Go.Proofs.YtofaegcljcpceagGreatDoor.WalkTabOne
