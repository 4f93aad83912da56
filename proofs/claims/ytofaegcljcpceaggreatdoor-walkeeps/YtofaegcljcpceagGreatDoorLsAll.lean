/-
  An Lsm of the program as an object: its store of what is young, and its tables; and what the program tells of its levels.
-/
import Derived.Test.YtofaegcljcpceagGreatDoorWalkLiving
import Derived.Test.YtofaegcljcpceagGreatDoorWalkSto
import Derived.Test.YtofaegcljcpceagGreatDoorWalkIns1
import Derived.Deep.RegionHeld3
namespace Go.Proofs.YtofaegcljcpceagGreatDoor.WalkLs
open Go.RowKit
open Lists (Row bt)
open Keeps (Kept owns_kept owns_base)
open Wides (Wide)
open Stores (Pair)
open PairRows (cells)
open Lsms (Lsm total live)
open WalkConcat (Fresh Own Owns)
open WalkStoSet (St)
open WalkTab (TbF Tb)

def ptr (b : Nat) : Value := .pointer (some ⟨b, 0, none⟩)
def fields (limit : Nat) (y t : Value) (j : Nat) : Value := if j = 0 then .int .i64 (limit : Int) else if j = 1 then y else t
/-- the tables in the blocks ts, all of their blocks in T -/
def Tbs (w : World) (B : Nat) (T : Nat → Prop) (ts : List Nat) (r : List (List Pair)) : Prop :=
  ts.length = r.length ∧ ∀ (i tb : Nat) (l : List Pair), ts[i]? = some tb → r[i]? = some l → ∃ u, TbF w B tb u l ∧ T tb ∧ ∀ k, u.ownBlock = some k → T k
/-- what is never left -/
structure Right (x : Lsm) : Prop where
  young : Stores.Rising x.young ∧ ∀ p ∈ x.young, LsmFines.Ok p
  levels : ∀ l ∈ x.levels, Stores.Rising l ∧ ∀ p ∈ l, LsmFines.Ok p
  few : x.levels.length ≤ 8
structure Lay (w : World) (B b : Nat) (x : Lsm) (yb : Nat) (Y T : Nat → Prop) (tv : Value) (ts : List Nat) : Prop where
  row : w.rowIs b 69 3 (fields x.limit (ptr yb) tv)
  young : St w B yb Y x.young
  tabs : w.ownsRow B 93 1 tv ts.length (ts.map ptr)
  each : Tbs w B T ts x.levels
  above : B ≤ b
  offb : ¬ Y b ∧ tv.ownBlock ≠ some b ∧ ¬ T b
  offY : ∀ k, Y k → tv.ownBlock ≠ some k ∧ ¬ T k
  offT : ∀ k, T k → tv.ownBlock ≠ some k
  tlt : ∀ k, T k → B ≤ k ∧ k < w.heap.size
  right : Right x
def foot (b : Nat) (Y T : Nat → Prop) (tv : Value) (k : Nat) : Prop := k = b ∨ Y k ∨ tv.ownBlock = some k ∨ T k
/-- block b holds an Lsm; F are its blocks -/
def Ls (w : World) (B b : Nat) (F : Nat → Prop) (x : Lsm) : Prop := ∃ yb Y T tv ts, Lay w B b x yb Y T tv ts ∧ ∀ k, F k ↔ foot b Y T tv k

theorem Tbs.kept {S : Nat → Prop} {w w' : World} {B : Nat} {T : Nat → Prop} {ts : List Nat} {r : List (List Pair)} (h : Tbs w B T ts r) (k : Kept S w w') (hS : ∀ i, T i → ¬ S i) : Tbs w' B T ts r :=
  ⟨h.1, fun i tb l h1 h2 => by
    obtain ⟨u, h3, h4, h5⟩ := h.2 i tb l h1 h2
    exact ⟨u, h3.kept k (hS tb h4) (fun j hj => hS j (h5 j hj)), h4, h5⟩⟩
theorem Tbs.mono {w : World} {B : Nat} {T U : Nat → Prop} {ts : List Nat} {r : List (List Pair)} (h : Tbs w B T ts r) (hU : ∀ k, T k → U k) : Tbs w B U ts r :=
  ⟨h.1, fun i tb l h1 h2 => by
    obtain ⟨u, h3, h4, h5⟩ := h.2 i tb l h1 h2
    exact ⟨u, h3, hU _ h4, fun j hj => hU _ (h5 j hj)⟩⟩
theorem Tbs.cons {w : World} {B : Nat} {T : Nat → Prop} {ts : List Nat} {r : List (List Pair)} (h : Tbs w B T ts r) {tb : Nat} {u : Value} {l : List Pair} (h3 : TbF w B tb u l) (h4 : T tb) (h5 : ∀ k, u.ownBlock = some k → T k) : Tbs w B T (tb :: ts) (l :: r) := by
  refine ⟨by simp [h.1], fun i tb' l' h1 h2 => ?_⟩
  cases i with
  | zero =>
    obtain rfl : tb = tb' := by simpa using h1
    obtain rfl : l = l' := by simpa using h2
    exact ⟨u, h3, h4, h5⟩
  | succ i => exact h.2 i tb' l' (by simpa using h1) (by simpa using h2)
theorem Tbs.nil (w : World) (B : Nat) (T : Nat → Prop) : Tbs w B T [] [] := ⟨rfl, fun i tb l h => by simp at h⟩
theorem Lay.foot_lt {w : World} {B b : Nat} {x : Lsm} {yb : Nat} {Y T : Nat → Prop} {tv : Value} {ts : List Nat} (h : Lay w B b x yb Y T tv ts) : ∀ k, foot b Y T tv k → B ≤ k ∧ k < w.heap.size := by
  rintro k (rfl | hk | hk | hk)
  · exact ⟨h.above, h.row.lt⟩
  · exact h.young.foot k hk
  · exact h.tabs.lt k hk
  · exact h.tlt k hk
theorem Lay.kept {S : Nat → Prop} {w w' : World} {B b : Nat} {x : Lsm} {yb : Nat} {Y T : Nat → Prop} {tv : Value} {ts : List Nat} (h : Lay w B b x yb Y T tv ts) (k : Kept S w w') (hS : ∀ i, foot b Y T tv i → ¬ S i) : Lay w' B b x yb Y T tv ts :=
  ⟨h.row.of_block (k.block b h.row.lt (hS b (.inl rfl))), h.young.kept k fun i hi => hS i (.inr (.inl hi)), owns_kept h.tabs k fun i hi => hS i (.inr (.inr (.inl hi))), h.each.kept k fun i hi => hS i (.inr (.inr (.inr hi))), h.above, h.offb, h.offY, h.offT, fun i hi => ⟨(h.tlt i hi).1, Nat.lt_of_lt_of_le (h.tlt i hi).2 k.size⟩, h.right⟩
theorem Lay.below {w w' : World} {B b : Nat} {x : Lsm} {yb : Nat} {Y T : Nat → Prop} {tv : Value} {ts : List Nat} (h : Lay w B b x yb Y T tv ts) (k : Below w.heap.size w w') : Lay w' B b x yb Y T tv ts := h.kept (Kept.of_below (fun _ => False) k) fun _ _ q => q
theorem Ls.foot {w : World} {B b : Nat} {F : Nat → Prop} {x : Lsm} (h : Ls w B b F x) : ∀ k, F k → B ≤ k ∧ k < w.heap.size := by
  obtain ⟨yb, Y, T, tv, ts, hl, hF⟩ := h
  exact fun k hk => hl.foot_lt k ((hF k).1 hk)
theorem Ls.kept {S : Nat → Prop} {w w' : World} {B b : Nat} {F : Nat → Prop} {x : Lsm} (h : Ls w B b F x) (k : Kept S w w') (hS : ∀ i, F i → ¬ S i) : Ls w' B b F x := by
  obtain ⟨yb, Y, T, tv, ts, hl, hF⟩ := h
  exact ⟨yb, Y, T, tv, ts, hl.kept k fun i hi => hS i ((hF i).2 hi), hF⟩

/-! rows of two types lie apart -/
theorem own_apart {w : World} {B1 B2 : Nat} {e1 e2 : TypeId} {s1 s2 n1 n2 : Nat} {v1 v2 : Value} {xs1 xs2 : List Value} (h1 : w.ownsRow B1 e1 s1 v1 n1 xs1) (h2 : w.ownsRow B2 e2 s2 v2 n2 xs2) (he : e1 ≠ e2) : ∀ k, v1.ownBlock = some k → v2.ownBlock ≠ some k := by
  intro k k1 k2
  rcases h1.2 with ⟨rfl, _⟩ | ⟨g1, c1, cur1, rfl, _, hh1, _⟩
  · cases k1
  · rcases h2.2 with ⟨rfl, _⟩ | ⟨g2, c2, cur2, rfl, _, hh2, _⟩
    · cases k2
    · simp only [Value.ownBlock, Option.some.injEq] at k1 k2
      subst k1
      subst k2
      rw [hh1] at hh2
      simp only [Option.some.injEq, Obj.cells.injEq] at hh2
      exact he hh2.2.1
theorem infoL : (Tryz.prog.info? 32).map (fun i => (i.zero, i.size, i.bytes)) = some (some (.slice none 0 0), 1, 24) := by kernel_rfl

/-- the levels, as they are told -/
def Told (r : List (List Pair)) (w : World) (v : Value) (vs : List Value) (w' : World) : Prop :=
  w'.ownsRow w.heap.size 32 1 v vs.length vs ∧ Owns w' vs r ∧ (∀ u ∈ vs, u.oneCell' = true) ∧ Below w.heap.size w w'
theorem told_next {r : List (List Pair)} {w wr w5 wn : World} {v v1 u : Value} {vs : List Value} {k : Nat} {l : List Pair} (h : Told (r.take k) w v vs wr) (hl : r[k]? = some l) (b5 : Below wr.heap.size wr w5) (hu : w5.ownsRow wr.heap.size 31 3 u l.length (cells l))
    (o1 : wn.ownsRow w.heap.size 32 1 v1 (vs.length + 1) (vs ++ [u])) (g1 : (w5.alloc (.cells #[u] 32)).grownBy wn v.ownBlock) : Told (r.take (k + 1)) w v1 (vs ++ [u]) wn := by
  obtain ⟨h1, h2, h3, h4⟩ := h
  have b6 : Below wr.heap.size wr (w5.alloc (.cells #[u] 32)) := b5.alloc b5.size _
  have hv6 := owns_kept h1 (Kept.of_below (fun _ => False) b6) fun _ _ q => q
  have hu6 : (w5.alloc (.cells #[u] 32)).ownsRow wr.heap.size 31 3 u l.length (cells l) := hu.alloc _
  have h26 := h2.below b6
  have kn : Kept (fun i => v.ownBlock = some i) (w5.alloc (.cells #[u] 32)) wn := (Kept.refl _ _).grown g1 fun i hi => .inl hi
  have hkl := (List.getElem?_eq_some_iff.1 hl).1
  have hvl : vs.length = k := by rw [h2.1, List.length_take]; omega
  have hone : u.oneCell' = true := by
    rcases hu.2 with ⟨rfl, _⟩ | ⟨g, c, cur, rfl, _⟩ <;> rfl
  have hr1 : r.take (k + 1) = r.take k ++ [l] := by
    obtain ⟨hk, rfl⟩ := List.getElem?_eq_some_iff.1 hl
    exact List.take_succ_eq_append_getElem hk
  refine ⟨by rw [List.length_append]; exact o1, ⟨by rw [List.length_append, hr1, List.length_append, h2.1]; rfl, fun i v' l' q1 q2 => ?_⟩, fun y hy => ?_, ?_⟩
  · have hown : Own (w5.alloc (.cells #[u] 32)) v' l' := by
      by_cases hi : i < k
      · rw [List.getElem?_append_left (by omega)] at q1
        rw [hr1, List.getElem?_append_left (by rw [List.length_take]; omega)] at q2
        exact h26.2 i v' l' q1 q2
      · have hik : i = k := by
          have := (List.getElem?_eq_some_iff.1 q1).1
          rw [List.length_append, hvl, List.length_singleton] at this
          omega
        subst hik
        rw [List.getElem?_append_right (by omega), hvl, Nat.sub_self] at q1
        rw [hr1, List.getElem?_append_right (by rw [List.length_take]; omega), List.length_take, show i - min i r.length = 0 by omega] at q2
        obtain rfl : u = v' := by simpa using q1
        obtain rfl : l = l' := by simpa using q2
        exact ⟨_, hu6⟩
    refine hown.kept kn fun j hj => ?_
    obtain ⟨B', ho⟩ := hown
    exact own_apart ho hv6 (by decide) j hj
  · rcases List.mem_append.1 hy with hy | hy
    · exact h3 y hy
    · rw [List.mem_singleton.1 hy]; exact hone
  · exact h4.trans (Below.trans (b6.mono h4.size) (kn.below (fun i hi => (h1.lt i hi).1) (Nat.le_trans h4.size b6.size)))

set_option maxHeartbeats 4000000 in
set_option maxRecDepth 100000 in
theorem levels_any {w : World} {B b : Nat} {x : Lsm} {yb : Nat} {Y T : Nat → Prop} {tv : Value} {ts : List Nat} (h : Lay w B b x yb Y T tv ts) (hn : ts.length ≤ 1000000) :
    Calls Tryz.prog 29 #[.pointer (some ⟨b, 0, none⟩)] w fun e w' => ∃ v vs, e = .returned v ∧ Told x.levels w v vs w' := by
  obtain ⟨i0, hi, hz0, hz1, hz2⟩ := info_parts infoL
  have c2 : w.cell? ⟨b, 2, none⟩ = some tv := h.row.cell (i := 2) (by omega)
  obtain ⟨ta, tc, rfl, hrow, _⟩ := Keeps.owns_row h.tabs
  have HR : Hid (Row w ta ts.length tc (ts.map ptr)) := hrow
  have HE : Hid (Tbs w B T ts x.levels) := h.each
  generalize hN : ts.length = N at *
  have HN : Hid (ts.length = N) := hN
  clear h hrow hN
  go_enter Tryz.func29, Tryz.ntmps29
  go_upto_region 3 with fail
  go_loopw [3, 5, 11] (fun v _ kv wr => ∃ (k : Nat) (vs : List Value), k ≤ N ∧ vs.length = k ∧ kv = .int .i64 (k : Int) ∧ Hid (Told (x.levels.take k) w v vs wr)) (fun _ _ kv _ => N - (intOf kv).toNat)
  case atStart => exact ⟨0, [], Nat.zero_le _, rfl, rfl, ⟨World.ownsRow_nil _ _ _ _, Owns.nil _, (fun u hu => by cases hu), Below.refl _ _⟩⟩
  case round =>
    obtain ⟨k, vs, hk, hvk, rfl, HT⟩ := hrel
    by_cases hlt : k < N
    · have i1 : (k : Int) < (N : Int) := by omega
      have hbw := HT.out.2.2.2
      obtain ⟨tb, htb⟩ : ∃ tb, ts[k]? = some tb := ⟨ts[k]'(by have := HN.out; omega), List.getElem?_eq_getElem _⟩
      obtain ⟨l, hl⟩ : ∃ l, x.levels[k]? = some l := ⟨x.levels[k]'(by have := HN.out; have := HE.out.1; omega), List.getElem?_eq_getElem _⟩
      obtain ⟨u, ht, _⟩ := HE.out.2 k tb l htb hl
      obtain ⟨b1, off1, rfl, _⟩ := HR.out.2.2 (by omega)
      have c0 := (HR.out.below hbw).at k (ptr tb) (by rw [List.getElem?_map, htb]; rfl)
      have cA := WalkTab.all_any l tb wr (Tb.below ⟨B, u, ht⟩ hbw)
      have HOo := HT.out.1
      have HNX : Hid (∀ (w5 wn : World) (v1 u : Value), Below wr.heap.size wr w5 → w5.ownsRow wr.heap.size 31 3 u l.length (cells l) → wn.ownsRow w.heap.size 32 1 v1 (vs.length + 1) (vs ++ [u]) → (w5.alloc (.cells #[u] 32)).grownBy wn u3.ownBlock → Told (x.levels.take (k + 1)) w v1 (vs ++ [u]) wn) := fun w5 wn v1 u b5 hu o1 g1 => told_next HT.out hl b5 hu o1 g1
      have HOw : Hid (wr.ownsRow w.heap.size 32 1 u3 vs.length vs) := HOo
      have HBs : Hid (w.heap.size ≤ wr.heap.size) := hbw.size
      unfold ptr at c0
      clear htb hl ht hbw HOo HT
      go_wp2_with fail
      refine cA.mono ?_
      rintro e w5 ⟨v5, rfl, o5, b5⟩
      have HO5 : Hid (w5.ownsRow w.heap.size 32 1 u3 vs.length vs) := owns_kept HOw.out (Kept.of_below (fun _ => False) b5) fun _ _ q => q
      have H5 : Hid (Below wr.heap.size wr w5 ∧ w5.ownsRow wr.heap.size 31 3 v5 l.length (cells l)) := ⟨b5, o5⟩
      have HBs5 : Hid (w.heap.size ≤ w5.heap.size) := Nat.le_trans HBs.out b5.size
      obtain ⟨a5, cp5, rfl, _⟩ := Wides.owns_wide o5
      clear cA b5 o5 HOw HBs
      go_wp2_with (at_builtin; go_must (refine wpList_append_own _ rfl (.tmp 15) (.tmp 18) 22 rfl w.heap.size 32 i0 (.slice none 0 0) 1 24 Tryz.underlying22 hi hz0 hz1 hz2 rfl (by decide) _ _ _ rfl (HO5.out.alloc _) ⟨_, 0, none⟩ 1 1 [.slice a5 l.length cp5] rfl rfl (cell_one_new _ _ _) (fun u hu => by rw [List.mem_singleton.1 hu]; rfl) (by unfold maxLen; omega) (by omega) (by have := HBs5.out; simp; omega) ?_); intro v1 wn o1 g1 z1; clear z1; have HT2 : Hid (Told (x.levels.take (k + 1)) w v1 (vs ++ [.slice a5 l.length cp5]) wn) := HNX.out w5 wn v1 _ H5.out.1 H5.out.2 o1 g1; clear o1 g1)
      go_roundw
      case rel => exact ⟨k + 1, _, by omega, by rw [List.length_append, hvk]; rfl, by go_num, HT2⟩
      case measure => simp [intOf]; omega
    · obtain rfl : k = N := by omega
      have i1 : ¬ (k : Int) < (k : Int) := by omega
      have HF : Hid (Told x.levels w u3 vs wr) := by
        have h := HT.out
        rw [List.take_of_length_le (by have := HN.out; have := HE.out.1; omega)] at h
        exact h
      go_wp2_with fail
      go_ret
      exact ⟨u3, rfl, vs, HF.out⟩

end Go.Proofs.YtofaegcljcpceagGreatDoor.WalkLs

/-
  What package lsm does with an Lsm of the call's own: New, Merge, Flush, Put, Drop.
-/
namespace Go.Proofs.YtofaegcljcpceagGreatDoor.WalkLs
open Go.RowKit
open Lists (Row bt)
open Keeps (Kept owns_kept owns_base)
open Wides (Wide)
open Stores (Pair withP putE putL)
open PairRows (cells)
open Lsms (Lsm total live mergeV mergeE merged room flushE flushed putted newE getLV getLE)
open WalkConcat (Fresh Own Owns)
open WalkStoSet (St)
open WalkTab (TbF Tb)
open Errs (errv errv0 errv_pos)
open LsmFines (Ok)

/-! what stays right -/
theorem Right.merge {x : Lsm} (h : Right x) : Right (merged x) := ⟨h.young, LsmFines.mergeV_fine h.levels, by have := LsmLetters.merge_few x; show (mergeV x).length ≤ 8; omega⟩
theorem Right.roomed {x : Lsm} (h : Right x) : Right { x with levels := room x } := ⟨h.young, LsmFines.room_fine h.levels, by have := LsmLetters.room_few x; show (room x).length ≤ 8; omega⟩
theorem Right.flush {x : Lsm} (h : Right x) : Right { x with young := [], levels := x.young :: room x } := by
  refine ⟨⟨Lsms.rising_nil, fun p hp => by cases hp⟩, fun l hl => ?_, by have := LsmLetters.room_few x; show (x.young :: room x).length ≤ 8; simp only [List.length_cons]; omega⟩
  rcases List.mem_cons.1 hl with rfl | hl
  · exact h.young
  · exact LsmFines.room_fine h.levels l hl
theorem Right.inserted {x : Lsm} (h : Right x) : Right { x with levels := x.young :: room x } := ⟨h.young, h.flush.levels, h.flush.few⟩
theorem Right.put {x : Lsm} (h : Right x) {p : Pair} (he : putE x.young p = 0) (hg : p.gone = true → p.val.size = 0) : Right { x with young := withP x.young p } := by
  refine ⟨⟨Stores.rising_with p h.young.1, fun y hy => ?_⟩, h.levels, h.few⟩
  rcases Stores.mem_with _ _ _ hy with rfl | hy
  · have h1 := Stores.put_ok he
    exact ⟨by unfold Stores.keyE; rw [if_neg (by omega), if_neg (by omega)], h1.2.2.1, hg⟩
  · exact h.young.2 y hy
theorem Right.lives {x : Lsm} (h : Right x) : Tabs.pairsE (live x.levels) = 0 := LsmFines.pairs_of (Lsms.live_rising _) fun p hp => by
  obtain ⟨l, hl, hy⟩ := LsmFines.mem_live hp
  exact (h.levels l hl).2 p hy
theorem Right.youngs {x : Lsm} (h : Right x) : Tabs.pairsE x.young = 0 := LsmFines.pairs_of h.young.1 h.young.2

/-! a field written anew -/
theorem fields_tabs {w : World} {b limit : Nat} {y t t' : Value} (h : w.rowIs b 69 3 (fields limit y t)) : (w.setCell ⟨b, 2, none⟩ t').rowIs b 69 3 (fields limit y t') :=
  (h.set 2 t').congr fun j hj => by match j, hj with | 0, _ | 1, _ | 2, _ => rfl | j + 3, q => omega
theorem fields_young {w : World} {b limit : Nat} {y y' t : Value} (h : w.rowIs b 69 3 (fields limit y t)) : (w.setCell ⟨b, 1, none⟩ y').rowIs b 69 3 (fields limit y' t) :=
  (h.set 1 y').congr fun j hj => by match j, hj with | 0, _ | 1, _ | 2, _ => rfl | j + 3, q => omega
theorem kept_cell (w : World) (b j : Nat) (u : Value) : Kept (fun k => k = b) w (w.setCell ⟨b, j, none⟩ u) := (Kept.refl (fun k => k = b) w).setCell (p := ⟨b, j, none⟩) (.inl rfl) u
theorem Lay.setTabs {w : World} {B b : Nat} {x : Lsm} {yb : Nat} {Y T T' : Nat → Prop} {tv tv' : Value} {ts ts' : List Nat} {r' : List (List Pair)} (h : Lay w B b x yb Y T tv ts) (tabs : w.ownsRow B 93 1 tv' ts'.length (ts'.map ptr)) (each : Tbs w B T' ts' r')
    (ob : tv'.ownBlock ≠ some b ∧ ¬ T' b) (oY : ∀ k, Y k → tv'.ownBlock ≠ some k ∧ ¬ T' k) (oT : ∀ k, T' k → tv'.ownBlock ≠ some k) (tl : ∀ k, T' k → B ≤ k ∧ k < w.heap.size) (hr : Right { x with levels := r' }) :
    Lay (w.setCell ⟨b, 2, none⟩ tv') B b { x with levels := r' } yb Y T' tv' ts' := by
  have k := kept_cell w b 2 tv'
  exact ⟨fields_tabs h.row, h.young.kept k fun i hi e => h.offb.1 (by rw [← e]; exact hi), owns_kept tabs k fun i hi e => ob.1 (by rw [← e]; exact hi), each.kept k fun i hi e => ob.2 (by rw [← e]; exact hi), h.above, ⟨h.offb.1, ob.1, ob.2⟩, oY, oT, fun i hi => ⟨(tl i hi).1, Nat.lt_of_lt_of_le (tl i hi).2 k.size⟩, hr⟩
theorem Lay.setYoung {w : World} {B b : Nat} {x : Lsm} {yb yb' : Nat} {Y Y' T : Nat → Prop} {tv : Value} {ts : List Nat} {l : List Pair} (h : Lay w B b x yb Y T tv ts) (st : St w B yb' Y' l) (ob : ¬ Y' b) (oY : ∀ k, Y' k → tv.ownBlock ≠ some k ∧ ¬ T k) (hr : Right { x with young := l }) :
    Lay (w.setCell ⟨b, 1, none⟩ (ptr yb')) B b { x with young := l } yb' Y' T tv ts := by
  have k := kept_cell w b 1 (ptr yb')
  exact ⟨fields_young h.row, st.kept k fun i hi e => ob (by rw [← e]; exact hi), owns_kept h.tabs k fun i hi e => h.offb.2.1 (by rw [← e]; exact hi), h.each.kept k fun i hi e => h.offb.2.2 (by rw [← e]; exact hi), h.above, ⟨ob, h.offb.2⟩, oY, h.offT, fun i hi => ⟨(h.tlt i hi).1, Nat.lt_of_lt_of_le (h.tlt i hi).2 k.size⟩, hr⟩

/-- what a call leaves that writes into an Lsm -/
def Leaves (w : World) (B b : Nat) (F : Nat → Prop) (y : Lsm) (E : Nat) (e : Ending) (w' : World) : Prop :=
  e = .returned (errv E) ∧ (∃ F', Ls w' B b F' y ∧ ∀ k, F' k → F k ∨ w.heap.size ≤ k) ∧ Kept F w w'
theorem merged_none {x : Lsm} (h : x.levels = []) : merged x = x ∧ mergeE x = 6 := by
  obtain ⟨a, b, c⟩ := x
  simp only at h
  subst h
  exact ⟨rfl, rfl⟩
theorem merged_some {x : Lsm} (h : x.levels ≠ []) : mergeE x = 0 ∧ (live x.levels = [] → merged x = { x with levels := [] }) ∧ (live x.levels ≠ [] → merged x = { x with levels := [live x.levels] }) := by
  refine ⟨if_neg h, fun h1 => ?_, fun h1 => ?_⟩
  · unfold merged mergeV; rw [if_neg h, if_pos h1]
  · unfold merged mergeV; rw [if_neg h, if_neg h1]
theorem one_owns (w : World) (B tb : Nat) (hB : B ≤ w.heap.size) : (w.alloc (.cells #[ptr tb] 93)).ownsRow B 93 1 (.slice (some ⟨w.heap.size, 0, none⟩) 1 1) [tb].length ([tb].map ptr) :=
  WideCopy.owns_of_lies (n := 1) (cap := 1) (R := [ptr tb]) hB (heap_alloc_new w _) (Nat.le_refl _) (by unfold maxLen; decide) rfl rfl

set_option maxHeartbeats 4000000 in
set_option maxRecDepth 100000 in
theorem merge_in {w : World} {B b : Nat} {F : Nat → Prop} {x : Lsm} (h : Ls w B b F x) (hs : x.size ≤ 10001) :
    Calls Tryz.prog 101 #[.pointer (some ⟨b, 0, none⟩)] w fun e w' => Leaves w B b F (merged x) (mergeE x) e w' := by
  have HLs : Hid (Ls w B b F x) := h
  obtain ⟨yb, Y, T, tv, ts, hl, hF⟩ := h
  have hright := hl.right
  have htl := hl.each.1
  have hfew := hright.few
  have htot : total x.levels ≤ 10001 := by unfold Lsm.size at hs; omega
  have c2 : w.cell? ⟨b, 2, none⟩ = some tv := hl.row.cell (i := 2) (by omega)
  obtain ⟨ta, tc, htv, _⟩ := Keeps.owns_row hl.tabs
  rw [htv] at c2
  by_cases h0 : x.levels = []
  · obtain ⟨e1, e2⟩ := merged_none h0
    have HE : Hid (Leaves w B b F (merged x) (mergeE x) (.returned (errv 6)) w) := ⟨by rw [e2], ⟨F, by rw [e1]; exact HLs.out, fun k hk => .inl hk⟩, Kept.refl _ _⟩
    have hz : ts.length = 0 := by rw [htl, h0]; rfl
    rw [hz] at c2
    rw [errv_pos 6 (by decide)] at HE
    clear hl hF hright htl hfew htot htv HLs e1 e2 hz h0
    go_enter Tryz.func101, Tryz.ntmps101
    go_wp2_with fail
    go_ret
    exact HE.out
  · obtain ⟨e1, e2, e3⟩ := merged_some h0
    have hpos : 0 < ts.length := by rw [htl]; exact List.length_pos_iff.2 h0
    have HL : Hid (Lay w B b x yb Y T tv ts) := hl
    have HF : Hid (∀ k, F k ↔ foot b Y T tv k) := hF
    have cL := levels_any hl (by omega)
    have HM : Hid (mergeE x = 0 ∧ (live x.levels = [] → merged x = { x with levels := [] }) ∧ (live x.levels ≠ [] → merged x = { x with levels := [live x.levels] })) := ⟨e1, e2, e3⟩
    have HR : Hid (Right x) := hright
    generalize hN : ts.length = N at *
    have hne : ((N : Int) == 0) = false := by simp; omega
    have hne2 : ¬ (N : Int) = 0 := by omega
    clear hl hF hright htv h0 e1 e2 e3 hN
    go_enter Tryz.func101, Tryz.ntmps101
    go_wp2_with fail
    refine cL.mono ?_
    rintro e w1 ⟨v, vs, rfl, ht1, ht2, ht3, ht4⟩
    obtain ⟨av, cv, rfl, hrow, _⟩ := Keeps.owns_row ht1
    have hvl : vs.length ≤ 8 := by rw [ht2.1]; exact hfew
    have cV := WalkLiving.living_any vs x.levels av vs.length cv w1 hrow ht2 (by omega) (by omega)
    have HB1 : Hid (Below w.heap.size w w1) := ht4
    clear cL ht1 ht2 ht3 ht4 hrow
    go_wp2_with fail
    refine cV.mono ?_
    rintro e w2 ⟨v2, rfl, o2, b2⟩
    have HB2 : Hid (Below w.heap.size w w2) := bt HB1.out b2
    obtain ⟨a2, cp2, rfl, hw2⟩ := Wides.owns_wide o2
    have HW2 : Hid (Wide 3 w2 a2 (live x.levels).length cp2 (cells (live x.levels))) := hw2
    have HLL : Hid ((live x.levels).length ≤ 10001) := Nat.le_trans (Lsms.live_le x.levels) htot
    clear cV o2 b2 hw2 HB1
    have HL2 : Hid (Lay w2 B b x yb Y T tv ts) := HL.out.below HB2.out
    have d2 : w2.cell? ⟨b, 2, none⟩ = some tv := HL2.out.row.cell (i := 2) (by omega)
    have f2 := HL2.out.row.frozen 2
    by_cases h1 : live x.levels = []
    · have HE : Hid (Leaves w B b F (merged x) (mergeE x) (.returned (errv 0)) (w2.setCell ⟨b, 2, none⟩ (.slice none 0 0))) := by
        refine ⟨by rw [HM.out.1], ⟨foot b Y (fun _ => False) (.slice none 0 0), ⟨yb, Y, fun _ => False, .slice none 0 0, [], ?_, fun k => Iff.rfl⟩, ?_⟩, ?_⟩
        · rw [HM.out.2.1 h1]
          exact HL2.out.setTabs (World.ownsRow_nil _ _ _ _) (Tbs.nil _ _ _) ⟨by simp [Value.ownBlock], fun q => q⟩ (fun k _ => ⟨by simp [Value.ownBlock], fun q => q⟩) (fun k q => q.elim) (fun k q => q.elim) (by have := HR.out.merge; rw [HM.out.2.1 h1] at this; exact this)
        · rintro k (rfl | hk | hk | hk)
          · exact .inl ((HF.out _).2 (.inl rfl))
          · exact .inl ((HF.out _).2 (.inr (.inl hk)))
          · cases hk
          · exact hk.elim
        · exact (Kept.of_below F HB2.out).trans (kept_cell w2 b 2 _) fun i hi => .inl (by rw [hi]; exact (HF.out b).2 (.inl rfl))
      rw [errv0] at HE
      have hz : (live x.levels).length = 0 := by rw [h1]; rfl
      rw [hz]
      clear hz h1 HW2 HLL HL2
      go_wp2_with fail
      go_ret
      exact HE.out
    · have hpl : 0 < (live x.levels).length := List.length_pos_iff.2 h1
      have hnl : ((live x.levels).length : Int) ≠ 0 := by omega
      have cT := WalkLiving.tableOf_any (live x.levels) a2 _ cp2 w2 HW2.out HLL.out HR.out.lives
      generalize hLn : (live x.levels).length = LN at *
      have hne3 : ((LN : Int) == 0) = false := by simp; omega
      clear hLn HW2
      go_wp2_with fail
      refine cT.mono ?_
      rintro e w3 ⟨⟨tb, u, rfl, htb, ht⟩, b3⟩
      have HB3 : Hid (Below w.heap.size w w3) := bt HB2.out b3
      have HL3 : Hid (Lay w3 B b x yb Y T tv ts) := HL2.out.below b3
      have HB23 := HB2.out.size
      have hbw : b < w.heap.size := HL.out.row.lt
      have hBw : B ≤ w.heap.size := by have := HL.out.above; omega
      have HE : Hid (Leaves w B b F (merged x) (mergeE x) (.returned (errv 0)) ((w3.alloc (.cells #[ptr tb] 93)).setCell ⟨b, 2, none⟩ (.slice (some ⟨w3.heap.size, 0, none⟩) 1 1))) := by
        have b4 : Below w3.heap.size w3 (w3.alloc (.cells #[ptr tb] 93)) := (Below.refl _ _).alloc (Nat.le_refl _) _
        have HL4 := HL3.out.below b4
        have hs3 := HB3.out.size
        have htl3 := ht.row.lt
        have hu3 : ∀ k, u.ownBlock = some k → w2.heap.size ≤ k ∧ k < w3.heap.size := fun k hk => ht.own.lt k hk
        have ht4 : TbF (w3.alloc (.cells #[ptr tb] 93)) B tb u (live x.levels) := by
          have h4 := ht.kept (Kept.of_below (fun _ => False) b4) (fun q => q) fun _ _ q => q
          exact ⟨h4.row, owns_base h4.own (by omega), h4.right, h4.few⟩
        refine ⟨by rw [HM.out.1], ⟨_, ⟨yb, Y, fun k => k = tb ∨ u.ownBlock = some k, .slice (some ⟨w3.heap.size, 0, none⟩) 1 1, [tb], ?_, fun k => Iff.rfl⟩, ?_⟩, ?_⟩
        · rw [HM.out.2.2 h1]
          refine HL4.setTabs (one_owns w3 B tb (by omega)) ((Tbs.nil _ _ _).cons ht4 (.inl rfl) fun k hk => .inr hk) ⟨?_, ?_⟩ (fun k hk => ⟨?_, ?_⟩) ?_ ?_ (by have := HR.out.merge; rw [HM.out.2.2 h1] at this; exact this)
          · simp only [Value.ownBlock, ne_eq, Option.some.injEq]; omega
          · rintro (q | q)
            · omega
            · have := (hu3 _ q).1; omega
          · have := (HL.out.young.foot k hk).2
            simp only [Value.ownBlock, ne_eq, Option.some.injEq]; omega
          · have h9 := (HL.out.young.foot k hk).2
            rintro (q | q)
            · omega
            · have := (hu3 _ q).1; omega
          · rintro k (q | q)
            · simp only [Value.ownBlock, ne_eq, Option.some.injEq]; omega
            · have := (hu3 _ q).2
              simp only [Value.ownBlock, ne_eq, Option.some.injEq]; omega
          · rintro k (rfl | q)
            · exact ⟨by omega, Nat.lt_of_lt_of_le htl3 b4.size⟩
            · exact ⟨by have := (hu3 _ q).1; omega, Nat.lt_of_lt_of_le (hu3 _ q).2 b4.size⟩
        · rintro k (rfl | hk | hk | hk | hk)
          · exact .inl ((HF.out _).2 (.inl rfl))
          · exact .inl ((HF.out _).2 (.inr (.inl hk)))
          · simp only [Value.ownBlock, Option.some.injEq] at hk; exact .inr (by omega)
          · exact .inr (by omega)
          · exact .inr (by have := (hu3 _ hk).1; omega)
        · exact ((Kept.of_below F HB3.out).alloc _).trans (kept_cell _ b 2 _) fun i hi => .inl (by rw [hi]; exact (HF.out b).2 (.inl rfl))
      rw [errv0] at HE
      have d3 : w3.cell? ⟨b, 2, none⟩ = some tv := HL3.out.row.cell (i := 2) (by omega)
      have f3 := HL3.out.row.frozen 2
      have d4 : (w3.alloc (.cells #[ptr tb] 93)).cell? ⟨b, 2, none⟩ = some tv := (World.cell?_alloc_lt _ _ _ (Lists.block_lt d3)).trans d3
      have f4 := (HL3.out.below ((Below.refl _ _).alloc (Nat.le_refl _) (.cells #[ptr tb] 93))).row.frozen 2
      clear cT b3 ht htb HL2 HL3
      unfold ptr at HE d4 f4
      go_wp2_with fail
      go_ret
      exact HE.out

/-! what is young becomes a table -/
theorem put_cons (t : TypeId) {ts : List Nat} {tb B : Nat} {v : Value} {w : World} {e : Ending} {w' : World} (h : WalkIns1.Put t (ts.map ptr) (ptr tb) 0 B v w e w') :
    ∃ v', e = .returned v' ∧ w'.ownsRow B t 1 v' (tb :: ts).length ((tb :: ts).map ptr) ∧ Kept (fun k => v.ownBlock = some k) w w' ∧ ∀ k, v'.ownBlock = some k → v.ownBlock = some k ∨ w.heap.size ≤ k := by
  obtain ⟨v', h1, h2, h3, h4⟩ := h
  refine ⟨v', h1, ?_, h3, h4⟩
  rw [List.length_map] at h2
  exact h2
/-- the table is put ahead of the others -/
theorem Lay.insert {w w5 : World} {B b : Nat} {x : Lsm} {yb : Nat} {Y T : Nat → Prop} {tv v' : Value} {ts : List Nat} {tb : Nat} {u : Value} {l : List Pair} {N : Nat} (h : Lay w B b x yb Y T tv ts) (ht : TbF w B tb u l) (hN : N ≤ w.heap.size) (hb : b < N) (hY : ∀ k, Y k → k < N) (hv : ∀ k, tv.ownBlock = some k → k < N) (htb : N ≤ tb) (hu : ∀ k, u.ownBlock = some k → N ≤ k)
    (o : w5.ownsRow B 93 1 v' (tb :: ts).length ((tb :: ts).map ptr)) (k : Kept (fun k => tv.ownBlock = some k) w w5) (hn : ∀ k, v'.ownBlock = some k → tv.ownBlock = some k ∨ w.heap.size ≤ k) (hr : Right { x with levels := l :: x.levels }) :
    Lay (w5.setCell ⟨b, 2, none⟩ v') B b { x with levels := l :: x.levels } yb Y (fun i => T i ∨ i = tb ∨ u.ownBlock = some i) v' (tb :: ts) := by
  have htl := ht.row.lt
  have hul : ∀ k, u.ownBlock = some k → B ≤ k ∧ k < w.heap.size := fun k hk => ht.own.lt k hk
  have hTw : ∀ i, (T i ∨ i = tb ∨ u.ownBlock = some i) → i < w.heap.size := by
    rintro i (q | q | q)
    · exact (h.tlt i q).2
    · omega
    · exact (hul i q).2
  have hTo : ∀ i, (T i ∨ i = tb ∨ u.ownBlock = some i) → tv.ownBlock ≠ some i := by
    rintro i (q | q | q) e
    · exact h.offT i q e
    · have := hv i e; omega
    · have := hv i e; have := hu i q; omega
  have row5 : w5.rowIs b 69 3 (fields x.limit (ptr yb) tv) := h.row.of_block (k.block b h.row.lt h.offb.2.1)
  have young5 : St w5 B yb Y x.young := h.young.kept k fun i hi => (h.offY i hi).1
  have each5 : Tbs w5 B (fun i => T i ∨ i = tb ∨ u.ownBlock = some i) (tb :: ts) (l :: x.levels) := (((h.each.mono (U := fun i => T i ∨ i = tb ∨ u.ownBlock = some i) fun i hi => .inl hi).cons ht (.inr (.inl rfl)) fun i hi => .inr (.inr hi))).kept k hTo
  have q := kept_cell w5 b 2 v'
  have hvb : v'.ownBlock ≠ some b := fun e => by
    rcases hn b e with e | e
    · exact h.offb.2.1 e
    · omega
  have hTb : ¬ (T b ∨ b = tb ∨ u.ownBlock = some b) := by
    rintro (q | q | q)
    · exact h.offb.2.2 q
    · omega
    · have := hu b q; omega
  refine ⟨fields_tabs row5, young5.kept q fun i hi e => h.offb.1 (by rw [← e]; exact hi), owns_kept o q fun i hi e => hvb (by rw [← e]; exact hi), each5.kept q fun i hi e => hTb (by rw [← e]; exact hi), h.above, ⟨h.offb.1, hvb, hTb⟩, fun i hi => ⟨fun e => ?_, ?_⟩, fun i hi e => ?_, fun i hi => ⟨?_, Nat.lt_of_lt_of_le (hTw i hi) (Nat.le_trans k.size q.size)⟩, hr⟩
  · rcases hn i e with e | e
    · exact (h.offY i hi).1 e
    · have := hY i hi; omega
  · rintro (q | q | q)
    · exact (h.offY i hi).2 q
    · have := hY i hi; omega
    · have := hY i hi; have := hu i q; omega
  · rcases hn i e with e | e
    · exact hTo i hi e
    · have := hTw i hi; omega
  · rcases hi with q | q | q
    · exact (h.tlt i q).1
    · have := ht.own; have h2 := h.above; omega
    · exact (hul i q).1

theorem flushed_none {x : Lsm} (h : x.young = []) : flushed x = x ∧ flushE x = 6 := ⟨if_pos h, if_pos h⟩
theorem flushed_some {x : Lsm} (h : x.young ≠ []) : flushed x = { x with young := [], levels := x.young :: room x } ∧ flushE x = 0 := ⟨if_neg h, if_neg h⟩
theorem total_room (x : Lsm) : total (room x) ≤ total x.levels := by
  unfold room
  split
  · exact Lsms.merge_le x
  · exact Nat.le_refl _

set_option maxHeartbeats 8000000 in
set_option maxRecDepth 100000 in
theorem flush_in {w : World} {B b : Nat} {F : Nat → Prop} {x : Lsm} (h : Ls w B b F x) (hs : x.size ≤ 10001) :
    Calls Tryz.prog 95 #[.pointer (some ⟨b, 0, none⟩)] w fun e w' => Leaves w B b F (flushed x) (flushE x) e w' := by
  have HLs : Hid (Ls w B b F x) := h
  have hfoot := h.foot
  obtain ⟨yb, Y, T, tv, ts, hl, hF⟩ := h
  have hr60 := hl.young.rising.2
  have c1 : w.cell? ⟨b, 1, none⟩ = some (ptr yb) := hl.row.cell (i := 1) (by omega)
  have cN := WalkSto.len_any hl.young
  unfold ptr at c1
  by_cases h0 : x.young = []
  · obtain ⟨e1, e2⟩ := flushed_none h0
    have HE : Hid (∀ w1, Below w.heap.size w w1 → Leaves w B b F (flushed x) (flushE x) (.returned (errv 6)) w1) := fun w1 b1 => ⟨by rw [e2], ⟨F, by rw [e1]; exact HLs.out.kept (Kept.of_below (fun _ => False) b1) fun _ _ q => q, fun k hk => .inl hk⟩, Kept.of_below _ b1⟩
    rw [errv_pos 6 (by decide)] at HE
    rw [h0] at cN
    clear hl hF e1 e2 h0 hr60 HLs hfoot
    go_enter Tryz.func95, Tryz.ntmps95
    go_wp2_with fail
    refine cN.mono ?_
    rintro e w1 ⟨rfl, b1⟩
    have HE1 := HE.out w1 b1
    clear HE cN b1
    go_wp2_with fail
    go_ret
    exact HE1
  · obtain ⟨e1, e2⟩ := flushed_some h0
    have hpos : 0 < x.young.length := List.length_pos_iff.2 h0
    have HX : Hid (flushed x = { x with young := [], levels := x.young :: room x } ∧ flushE x = 0) := ⟨e1, e2⟩
    have c2 : w.cell? ⟨b, 2, none⟩ = some tv := hl.row.cell (i := 2) (by omega)
    have htl := hl.each.1
    have hfew := hl.right.few
    obtain ⟨ta, tc, htv, _⟩ := Keeps.owns_row hl.tabs
    rw [htv, htl] at c2
    have HR : Hid (Right x) := hl.right
    have HM : Hid (∀ w1, Below w.heap.size w w1 → Calls Tryz.prog 101 #[.pointer (some ⟨b, 0, none⟩)] w1 fun e w' => Leaves w1 B b F (merged x) (mergeE x) e w') := fun w1 b1 => merge_in (HLs.out.kept (Kept.of_below (fun _ => False) b1) fun _ _ q => q) hs
    have HFt : Hid (∀ k, F k → B ≤ k ∧ k < w.heap.size) := hfoot
    have HC2 : Hid (∀ w1, Below w.heap.size w w1 → w1.cell? ⟨b, 2, none⟩ = some (.slice ta x.levels.length tc)) := fun w1 b1 => Lists.cell_below b1 c2
    have HK : Hid (∀ w1, Below w.heap.size w w1 → Ls w1 B b F x) := fun w1 b1 => HLs.out.kept (Kept.of_below (fun _ => False) b1) fun _ _ q => q
    have hys : x.young.length ≤ 10001 := by omega
    have HYN : Hid (x.young ≠ []) := h0
    generalize hYN : x.young.length = YN at *
    have hne : ((YN : Int) == 0) = false := by simp; omega
    have hne2 : ¬ (YN : Int) = 0 := by omega
    generalize hLN : x.levels.length = LN at *
    have HLN : Hid (x.levels.length = LN) := hLN
    clear hl hF e1 e2 h0 htv htl c2 hfoot hLN hYN
    go_enter Tryz.func95, Tryz.ntmps95
    go_wp2_with fail
    refine cN.mono ?_
    rintro e w1 ⟨rfl, b1⟩
    have d2 := HC2.out w1 b1
    have HB1 : Hid (Below w.heap.size w w1) := b1
    clear cN b1 c1
    go_upto_if 18 with fail
    go_cut [3, 18] from 19 to 23 (fun _ _ wc => ∃ F1, Hid (Ls wc B b F1 { x with levels := room x }) ∧ Hid (∀ k, F1 k → F k ∨ w.heap.size ≤ k) ∧ Hid (Kept F w wc))
    case first => as_aux_lemma =>
      by_cases h8 : 8 ≤ LN
      · have i1 : (8 : Int) ≤ (LN : Int) := by omega
        have hm0 : mergeE x = 0 := if_neg (fun e => by have h := HLN.out; rw [e] at h; simp at h; omega)
        have hroom : ({ x with levels := room x } : Lsm) = merged x := by
          unfold merged room
          rw [if_pos (by rw [HLN.out]; exact h8)]
        have cM := HM.out w1 HB1.out
        rw [hm0] at cM
        clear hm0
        go_wp2_with fail
        refine cM.mono ?_
        rintro e w2 ⟨rfl, ⟨F1, hl1, hf1⟩, k1⟩
        rw [errv0]
        have HL1 : Hid (Ls w2 B b F1 { x with levels := room x }) := by rw [hroom]; exact hl1
        have HF1 : Hid (∀ k, F1 k → F k ∨ w.heap.size ≤ k) := fun k hk => (hf1 k hk).imp id fun q => Nat.le_trans HB1.out.size q
        have HK1 : Hid (Kept F w w2) := (Kept.of_below F HB1.out).trans k1 fun _ q => .inl q
        clear cM hl1 hf1 k1 hroom
        go_wp2_with fail
        go_meet
        case rel => exact ⟨F1, HL1, HF1, HK1⟩
      · have i1 : ¬ (8 : Int) ≤ (LN : Int) := by omega
        have hroom : ({ x with levels := room x } : Lsm) = x := by
          unfold room
          rw [if_neg (by rw [HLN.out]; exact h8)]
        have HL1 : Hid (Ls w1 B b F { x with levels := room x }) := by rw [hroom]; exact HK.out w1 HB1.out
        have HK1 : Hid (Kept F w w1) := Kept.of_below F HB1.out
        clear hroom
        go_wp2_with fail
        go_meet
        case rel => exact ⟨F, HL1, fun k hk => .inl hk, HK1⟩
    obtain ⟨F1, HL1, HF1, HK1⟩ := hcut
    obtain ⟨yb1, Y1, T1, tv1, ts1, hl1, hf1⟩ := HL1.out
    have c1 : wc.cell? ⟨b, 1, none⟩ = some (ptr yb1) := hl1.row.cell (i := 1) (by omega)
    unfold ptr at c1
    have cA := WalkSto.all_any hl1.young
    have HLy : Hid (Lay wc B b { x with levels := room x } yb1 Y1 T1 tv1 ts1) := hl1
    have HFy : Hid (∀ k, F1 k ↔ foot b Y1 T1 tv1 k) := hf1
    clear hl1 hf1 HM HK HC2 d2 HB1 HLs
    go_upto_region 7 with fail
    go_wp2_with fail
    refine cA.mono ?_
    rintro e w2 ⟨v2, rfl, o2, b2⟩
    obtain ⟨a2, cp2, rfl, hw2⟩ := Wides.owns_wide o2
    have cT := WalkLiving.tableOf_any x.young a2 _ cp2 w2 hw2 (by show x.young.length ≤ 10001; have := HLy.out.young.rising.2; show x.young.length ≤ 10001; simp only at this; omega) HR.out.youngs
    have HB2 : Hid (Below wc.heap.size wc w2) := b2
    clear cA o2 b2 hw2 c1
    go_wp2_with fail
    refine cT.mono ?_
    rintro e w3 ⟨⟨tb, u, rfl, htb, ht⟩, b3⟩
    have HB3 : Hid (Below wc.heap.size wc w3) := bt HB2.out b3
    have HL3 : Hid (Lay w3 B b { x with levels := room x } yb1 Y1 T1 tv1 ts1) := HLy.out.below HB3.out
    have HTb : Hid (TbF w3 w2.heap.size tb u x.young ∧ wc.heap.size ≤ tb ∧ wc.heap.size ≤ w2.heap.size) := ⟨ht, Nat.le_trans HB2.out.size htb, HB2.out.size⟩
    clear cT ht htb b3
    have d2 : w3.cell? ⟨b, 2, none⟩ = some tv1 := HL3.out.row.cell (i := 2) (by omega)
    have d4 : (w3.alloc (.cells #[ptr tb] 93)).cell? ⟨b, 2, none⟩ = some tv1 := (World.cell?_alloc_lt _ _ _ (Lists.block_lt d2)).trans d2
    have hts1 : ts1.length ≤ 7 := by
      have h1 := HLy.out.each.1
      have h2 := LsmLetters.room_few x
      simp only at h1
      omega
    have hBc : B ≤ wc.heap.size := by have := HLy.out.above; have := HLy.out.row.lt; omega
    have hcw : w.heap.size ≤ wc.heap.size := HK1.out.size
    have hc3 : wc.heap.size ≤ w3.heap.size := HB3.out.size
    have hTb3 : TbF (w3.alloc (.cells #[ptr tb] 93)) B tb u x.young := by
      have h4 := HTb.out.1.kept (Kept.of_below (fun _ => False) ((Below.refl _ _).alloc (Nat.le_refl _) (.cells #[ptr tb] 93))) (fun q => q) fun _ _ q => q
      have := HTb.out.2.2
      exact ⟨h4.row, owns_base h4.own (by omega), h4.right, h4.few⟩
    have HL4 : Hid (Lay (w3.alloc (.cells #[ptr tb] 93)) B b { x with levels := room x } yb1 Y1 T1 tv1 ts1) := HL3.out.below ((Below.refl _ _).alloc (Nat.le_refl _) _)
    have cI := WalkIns1.insertTab (ts1.map ptr) (ptr tb) tv1 B w3.heap.size 0 (w3.alloc (.cells #[ptr tb] 93)) (by rw [List.length_map]; exact HL4.out.tabs) (Nat.zero_le _) (by rw [List.length_map]; omega) (heap_alloc_new w3 _) rfl (fun u hu => by
      obtain ⟨q, _, rfl⟩ := List.mem_map.1 hu
      rfl) (fun e => by have := (HL3.out.tabs.lt _ e).2; omega) (by simp; omega)
    have HNX : Hid (∀ (w5 : World) (v' : Value), w5.ownsRow B 93 1 v' (tb :: ts1).length ((tb :: ts1).map ptr) → Kept (fun k => tv1.ownBlock = some k) (w3.alloc (.cells #[ptr tb] 93)) w5 → (∀ k, v'.ownBlock = some k → tv1.ownBlock = some k ∨ (w3.alloc (.cells #[ptr tb] 93)).heap.size ≤ k) →
        Lay (w5.setCell ⟨b, 2, none⟩ v') B b { x with levels := x.young :: room x } yb1 Y1 (fun i => T1 i ∨ i = tb ∨ u.ownBlock = some i) v' (tb :: ts1) ∧ Kept F w (w5.setCell ⟨b, 2, none⟩ v') ∧ (w5.cell? ⟨b, 2, none⟩ = some tv1 ∧ w5.frozen? ⟨b, 2, none⟩ = false)) := by
      intro w5 v' o5 k5 n5
      have hFt := HLy.out.foot_lt
      refine ⟨?_, ?_, ?_⟩
      · exact HL4.out.insert hTb3 (N := wc.heap.size) (by simp; omega) HLy.out.row.lt (fun k hk => (HLy.out.young.foot k hk).2) (fun k hk => (HLy.out.tabs.lt k hk).2) HTb.out.2.1 (fun k hk => by have := (HTb.out.1.own.lt k hk).1; have := HTb.out.2.2; omega) o5 k5 n5 HR.out.inserted
      · have kk : Kept F w w5 := ((HK1.out.then HB3.out).alloc _).trans k5 fun i hi => HF1.out i ((HFy.out i).2 (.inr (.inr (.inl hi))))
        exact kk.trans (kept_cell w5 b 2 v') fun i hi => by rw [hi]; exact HF1.out b ((HFy.out b).2 (.inl rfl))
      · have r5 := HL4.out.row.of_block (k5.block b HL4.out.row.lt HL4.out.offb.2.1)
        exact ⟨r5.cell (i := 2) (by omega), r5.frozen 2⟩
    unfold ptr at d4
    clear HL3 hTb3 HL4
    go_upto_region 10 with fail
    have cI2 : Calls Tryz.prog 103 #[tv1, .int .i64 0, .slice (some ⟨w3.heap.size, 0, none⟩) 1 1] (w3.alloc (.cells #[.pointer (some ⟨tb, 0, none⟩)] 93)) fun e w' => WalkIns1.Put 93 (ts1.map ptr) (ptr tb) 0 B tv1 (w3.alloc (.cells #[ptr tb] 93)) e w' := cI
    clear cI
    obtain ⟨ta1, tc1, rfl, _⟩ := Keeps.owns_row HLy.out.tabs
    go_wp2_with fail
    refine cI2.mono ?_
    rintro e w5 hput
    obtain ⟨v5, rfl, o5, k5, n5⟩ := put_cons _ hput
    obtain ⟨hl5, hk5, g5, fz5⟩ := HNX.out w5 v5 o5 k5 n5
    obtain ⟨a5, c5, rfl, _⟩ := Keeps.owns_row o5
    have HL5 : Hid (Lay (w5.setCell ⟨b, 2, none⟩ (.slice a5 (tb :: ts1).length c5)) B b { x with levels := x.young :: room x } yb1 Y1 (fun i => T1 i ∨ i = tb ∨ u.ownBlock = some i) (.slice a5 (tb :: ts1).length c5) (tb :: ts1)) := hl5
    have HK5 : Hid (Kept F w (w5.setCell ⟨b, 2, none⟩ (.slice a5 (tb :: ts1).length c5))) := hk5
    have HN5 : Hid (∀ k, (Value.slice a5 (tb :: ts1).length c5).ownBlock = some k → F k ∨ w.heap.size ≤ k) := fun k hk => by
      rcases n5 k hk with q | q
      · exact HF1.out k ((HFy.out k).2 (.inr (.inr (.inl q))))
      · simp at q
        exact .inr (by omega)
    clear hput o5 k5 n5 hl5 hk5 HNX cI2 d2 d4
    generalize hTL : (tb :: ts1).length = TL at *
    go_upto_region 11 with fail
    clear g5 fz5
    generalize w5.setCell ⟨b, 2, none⟩ (.slice a5 TL c5) = w6 at HL5 HK5 ⊢
    have cN := WalkSto.new_any w6 B (by have := HL5.out.above; have := HL5.out.row.lt; omega)
    go_wp2_with fail
    refine cN.mono ?_
    rintro e w7 ⟨yb2, Y2, rfl, st7, n7, b7⟩
    have HL7 : Hid (Lay w7 B b { x with levels := x.young :: room x } yb1 Y1 (fun i => T1 i ∨ i = tb ∨ u.ownBlock = some i) (.slice a5 TL c5) (tb :: ts1)) := HL5.out.below b7
    have g7 : w7.cell? ⟨b, 1, none⟩ = some (ptr yb1) := HL7.out.row.cell (i := 1) (by omega)
    have f7 := HL7.out.row.frozen 1
    have HE : Hid (Leaves w B b F (flushed x) (flushE x) (.returned (errv 0)) (w7.setCell ⟨b, 1, none⟩ (ptr yb2))) := by
      have hk7 := HK5.out.then b7
      have hfl := HL5.out.foot_lt
      have hs6 := HK5.out.size
      refine ⟨by rw [HX.out.2], ⟨_, ⟨yb2, Y2, fun i => T1 i ∨ i = tb ∨ u.ownBlock = some i, .slice a5 TL c5, tb :: ts1, ?_, fun k => Iff.rfl⟩, ?_⟩, ?_⟩
      · rw [HX.out.1]
        refine HL7.out.setYoung st7 (fun q => ?_) (fun k hk => ⟨fun e => ?_, fun e => ?_⟩) HR.out.flush
        · have := n7 b q
          have := HL5.out.row.lt
          omega
        · have := n7 k hk
          have := (hfl k (.inr (.inr (.inl e)))).2
          omega
        · have := n7 k hk
          have := (hfl k (.inr (.inr (.inr e)))).2
          omega
      · rintro k (rfl | hk | hk | hk | hk | hk)
        · exact HF1.out _ ((HFy.out _).2 (.inl rfl))
        · exact .inr (by have := n7 k hk; omega)
        · exact HN5.out k hk
        · exact HF1.out _ ((HFy.out _).2 (.inr (.inr (.inr hk))))
        · exact .inr (by have := HTb.out.2.1; omega)
        · exact .inr (by have := (HTb.out.1.own.lt k hk).1; have := HTb.out.2.2; omega)
      · exact hk7.trans (kept_cell w7 b 1 _) fun i hi => by rw [hi]; exact HF1.out b ((HFy.out b).2 (.inl rfl))
    rw [errv0] at HE
    clear cN st7 n7 b7 HL7 HL5 HK5
    unfold ptr at g7 HE
    go_wp2_with fail
    go_ret
    exact HE.out

/-! what is put -/
set_option maxHeartbeats 4000000 in
set_option maxRecDepth 100000 in
theorem full_any {w : World} {B b : Nat} {F : Nat → Prop} {x : Lsm} (h : Ls w B b F x) (hs : x.size ≤ 10001) (hy : x.young ≠ []) :
    Calls Tryz.prog 84 #[.pointer (some ⟨b, 0, none⟩)] w fun e w' => Leaves w B b F (if x.limit ≤ x.young.length then flushed x else x) 0 e w' := by
  have HLs : Hid (Ls w B b F x) := h
  obtain ⟨yb, Y, T, tv, ts, hlay, hF⟩ := h
  have c0 : w.cell? ⟨b, 0, none⟩ = some (.int .i64 (x.limit : Int)) := hlay.row.cell (i := 0) (by omega)
  have c1 : w.cell? ⟨b, 1, none⟩ = some (.pointer (some ⟨yb, 0, none⟩)) := hlay.row.cell (i := 1) (by omega)
  have hy60 := hlay.young.rising.2
  have s0 := fun dd os => cell_regrown c0 dd os
  have s1 := fun dd os => cell_regrown c1 dd os
  have x1 := fun dd os => Calls.regrown_of (w := w) (d := dd) (os := os) (WalkSto.len_any (hlay.young.below (below_regrown w dd os)))
  have HFl : Hid (∀ w1, Below w.heap.size w w1 → Calls Tryz.prog 95 #[.pointer (some ⟨b, 0, none⟩)] w1 fun e w' => Leaves w1 B b F (flushed x) (flushE x) e w') := fun w1 b1 => flush_in (HLs.out.kept (Kept.of_below (fun _ => False) b1) fun _ _ q => q) hs
  have HYe : Hid (flushE x = 0) := (flushed_some hy).2
  generalize hYN : x.young.length = YN at *
  generalize hLM : x.limit = LM at *
  clear hlay hF c0 c1 hy hYN hLM
  by_cases hlim : YN < LM
  · have i1 : (YN : Int) < (LM : Int) := by omega
    rw [if_neg (by omega)]
    go_enter Tryz.func84, Tryz.ntmps84
    go_upto_region 1 with fail
    refine wp_region_quiet_below (by kernel_rfl) (by kernel_rfl) ?_
    iterate 4 (quiet_step (fail))
    quiet_step (exact x1 _ _)
    iterate 5 (quiet_step (fail))
    refine wpQuiet_nil ?_
    intro _ hw'
    obtain ⟨⟨dq, osq⟩, hw''⟩ := hw'
    subst hw''
    have bb := below_regrown w dq osq
    clear s0 s1 x1
    generalize «Sort».grow (redrawn w dq) osq = w4 at bb ⊢
    have HE : Hid (Leaves w B b F x 0 (.returned (errv 0)) w4) := ⟨rfl, ⟨F, HLs.out.kept (Kept.of_below (fun _ => False) bb) fun _ _ q => q, fun k hk => .inl hk⟩, Kept.of_below _ bb⟩
    rw [errv0] at HE
    clear bb
    go_wp2_with fail
    go_ret
    exact HE.out
  · have i1 : ¬ (YN : Int) < (LM : Int) := by omega
    rw [if_pos (by omega)]
    go_enter Tryz.func84, Tryz.ntmps84
    go_upto_region 1 with fail
    refine wp_region_quiet_below (by kernel_rfl) (by kernel_rfl) ?_
    iterate 4 (quiet_step (fail))
    quiet_step (exact x1 _ _)
    iterate 5 (quiet_step (fail))
    refine wpQuiet_nil ?_
    intro _ hw'
    obtain ⟨⟨dq, osq⟩, hw''⟩ := hw'
    subst hw''
    have bb := below_regrown w dq osq
    clear s0 s1 x1
    generalize «Sort».grow (redrawn w dq) osq = w4 at bb ⊢
    have cF := HFl.out w4 bb
    rw [HYe.out] at cF
    have HB : Hid (Below w.heap.size w w4) := bb
    clear bb HFl
    go_wp2_with fail
    refine cF.mono ?_
    rintro e w5 ⟨rfl, ⟨F1, h1, h2⟩, k5⟩
    have HE : Hid (Leaves w B b F (flushed x) 0 (.returned (errv 0)) w5) := ⟨rfl, ⟨F1, h1, fun k hk => (h2 k hk).imp id fun q => Nat.le_trans HB.out.size q⟩, (Kept.of_below F HB.out).trans k5 fun _ q => .inl q⟩
    clear cF h1 h2 k5 HB
    go_wp2_with fail
    go_ret
    exact HE.out
/-- the store has changed -/
theorem Ls.young {w w1 : World} {B b : Nat} {x : Lsm} {yb : Nat} {Y Y' T : Nat → Prop} {tv : Value} {ts : List Nat} {l : List Pair} (h : Lay w B b x yb Y T tv ts) (st : St w1 B yb Y' l) (k : Kept Y w w1) (hn : ∀ i, Y' i → Y i ∨ w.heap.size ≤ i) (hr : Right { x with young := l }) : Lay w1 B b { x with young := l } yb Y' T tv ts := by
  have hfl := h.foot_lt
  refine ⟨h.row.of_block (k.block b h.row.lt h.offb.1), st, owns_kept h.tabs k fun i hi q => (h.offY i q).1 hi, h.each.kept k fun i hi q => (h.offY i q).2 hi, h.above, ⟨fun q => ?_, h.offb.2⟩, fun i hi => ⟨fun e => ?_, fun e => ?_⟩, h.offT, fun i hi => ⟨(h.tlt i hi).1, Nat.lt_of_lt_of_le (h.tlt i hi).2 k.size⟩, hr⟩
  · rcases hn b q with q | q
    · exact h.offb.1 q
    · have := h.row.lt; omega
  · rcases hn i hi with q | q
    · exact (h.offY i q).1 e
    · have := (hfl i (.inr (.inr (.inl e)))).2; omega
  · rcases hn i hi with q | q
    · exact (h.offY i q).2 e
    · have := (hfl i (.inr (.inr (.inr e)))).2; omega
theorem putted_bad {x : Lsm} {p : Pair} (h : putE x.young p ≠ 0) : putted x p = x ∧ putL x.young p = x.young := ⟨Lsms.put_same x p h, if_neg h⟩
theorem putted_good {x : Lsm} {p : Pair} (h : putE x.young p = 0) : putted x p = (if x.limit ≤ (withP x.young p).length then flushed { x with young := withP x.young p } else { x with young := withP x.young p }) ∧ putL x.young p = withP x.young p := ⟨if_pos h, if_pos h⟩
theorem with_some (l : List Pair) (p : Pair) : withP l p ≠ [] := fun e => by
  have := Stores.find_with_same l p
  rw [e] at this
  cases this
theorem with_size (x : Lsm) (p : Pair) (hs : x.size ≤ 10000) : ({ x with young := withP x.young p } : Lsm).size ≤ 10001 := by
  have := Lsms.with_le x.young p
  unfold Lsm.size at hs ⊢
  simp only
  omega

set_option maxHeartbeats 4000000 in
set_option maxRecDepth 100000 in
theorem put_any {w : World} {B b : Nat} {F : Nat → Prop} {x : Lsm} (h : Ls w B b F x) (hs : x.size ≤ 10000) (key val : ByteArray) (hk : key.size ≤ maxLen) (hv : val.size ≤ maxLen) :
    Calls Tryz.prog 69 #[.pointer (some ⟨b, 0, none⟩), .string key, .string val] w fun e w' => e = .returned (errv (putE x.young ⟨key, val, false⟩)) ∧ (∃ F', Ls w' B b F' (putted x ⟨key, val, false⟩) ∧ ∀ k, F' k → F k ∨ w.heap.size ≤ k) ∧ Kept F w w' := by
  obtain ⟨yb, Y, T, tv, ts, hl, hF⟩ := h
  have c1 : w.cell? ⟨b, 1, none⟩ = some (.pointer (some ⟨yb, 0, none⟩)) := hl.row.cell (i := 1) (by omega)
  have cP := WalkSto.put_any hl.young key val hk hv
  have HL : Hid (Lay w B b x yb Y T tv ts) := hl
  have HF : Hid (∀ k, F k ↔ foot b Y T tv k) := hF
  have HY : Hid (∀ k, Y k → F k) := fun k hk => (hF k).2 (.inr (.inl hk))
  generalize hp : (⟨key, val, false⟩ : Pair) = p at *
  have hg : p.gone = true → p.val.size = 0 := fun e => by rw [← hp] at e; cases e
  clear hl hF hp hk hv
  have HNX : Hid (∀ (w1 : World) (Y' : Nat → Prop), St w1 B yb Y' (putL x.young p) → Kept Y w w1 → (∀ i, Y' i → Y i ∨ w.heap.size ≤ i) → Right { x with young := putL x.young p } → Ls w1 B b (foot b Y' T tv) { x with young := putL x.young p } ∧ (∀ k, foot b Y' T tv k → F k ∨ w.heap.size ≤ k)) := by
    intro w1 Y' st k1 n1 hr
    refine ⟨⟨yb, Y', T, tv, ts, Ls.young HL.out st k1 n1 hr, fun k => Iff.rfl⟩, ?_⟩
    rintro k (rfl | q | q | q)
    · exact .inl ((HF.out _).2 (.inl rfl))
    · exact (n1 k q).imp (HY.out k) id
    · exact .inl ((HF.out _).2 (.inr (.inr (.inl q))))
    · exact .inl ((HF.out _).2 (.inr (.inr (.inr q))))
  by_cases he : putE x.young p = 0
  · obtain ⟨e1, e2⟩ := putted_good he
    have HR : Hid (Right { x with young := withP x.young p }) := HL.out.right.put he hg
    have HX : Hid (putted x p = (if x.limit ≤ (withP x.young p).length then flushed { x with young := withP x.young p } else { x with young := withP x.young p })) := e1
    rw [he, errv0] at cP
    rw [he]
    rw [e2] at cP HNX
    clear e1 e2 he HL HF hg
    go_enter Tryz.func69, Tryz.ntmps69
    go_wp2_with fail
    refine cP.mono ?_
    rintro e w1 ⟨rfl, Y', st, k1, n1⟩
    obtain ⟨l1, n2⟩ := HNX.out w1 Y' st k1 n1 HR.out
    have cF := full_any l1 (with_size x p hs) (with_some x.young p)
    have HK1 : Hid (Kept F w w1) := k1.mono HY.out
    have HN2 : Hid (∀ k, foot b Y' T tv k → F k ∨ w.heap.size ≤ k) := n2
    clear cP st k1 n1 l1 n2 HNX
    go_wp2_with fail
    refine cF.mono ?_
    rintro e w2 ⟨rfl, ⟨F2, l2, n2⟩, k2⟩
    have HE : Hid ((∃ F', Ls w2 B b F' (putted x p) ∧ ∀ k, F' k → F k ∨ w.heap.size ≤ k) ∧ Kept F w w2) := by
      refine ⟨⟨F2, by rw [HX.out]; exact l2, fun k hk => ?_⟩, HK1.out.trans k2 HN2.out⟩
      rcases n2 k hk with q | q
      · exact HN2.out k q
      · exact .inr (Nat.le_trans HK1.out.size q)
    clear cF l2 n2 k2
    go_wp2_with fail
    go_ret
    exact ⟨rfl, HE.out⟩
  · obtain ⟨e1, e2⟩ := putted_bad he
    have hpo := errv_pos (putE x.young p) (by omega)
    have HR : Hid (Right x) := HL.out.right
    have HX : Hid (putted x p = x) := e1
    rw [e2] at cP HNX
    clear e1 e2 HL HF hg
    rw [hpo] at cP ⊢
    generalize putE x.young p = E at *
    go_enter Tryz.func69, Tryz.ntmps69
    go_wp2_with fail
    refine cP.mono ?_
    rintro e w1 ⟨rfl, Y', st, k1, n1⟩
    obtain ⟨l1, n2⟩ := HNX.out w1 Y' st k1 n1 HR.out
    have HE : Hid ((∃ F', Ls w1 B b F' (putted x p) ∧ ∀ k, F' k → F k ∨ w.heap.size ≤ k) ∧ Kept F w w1) := ⟨⟨_, by rw [HX.out]; exact l1, n2⟩, k1.mono HY.out⟩
    clear cP st k1 n1 l1 n2 HNX
    go_wp2_with fail
    go_ret
    exact ⟨rfl, HE.out⟩

set_option maxHeartbeats 4000000 in
set_option maxRecDepth 100000 in
theorem drop_any {w : World} {B b : Nat} {F : Nat → Prop} {x : Lsm} (h : Ls w B b F x) (hs : x.size ≤ 10000) (key : ByteArray) (hk : key.size ≤ maxLen) :
    Calls Tryz.prog 68 #[.pointer (some ⟨b, 0, none⟩), .string key] w fun e w' => e = .returned (errv (putE x.young ⟨key, ⟨#[]⟩, true⟩)) ∧ (∃ F', Ls w' B b F' (putted x ⟨key, ⟨#[]⟩, true⟩) ∧ ∀ k, F' k → F k ∨ w.heap.size ≤ k) ∧ Kept F w w' := by
  obtain ⟨yb, Y, T, tv, ts, hl, hF⟩ := h
  have c1 : w.cell? ⟨b, 1, none⟩ = some (.pointer (some ⟨yb, 0, none⟩)) := hl.row.cell (i := 1) (by omega)
  have cP := WalkSto.drop_any hl.young key hk
  have HL : Hid (Lay w B b x yb Y T tv ts) := hl
  have HF : Hid (∀ k, F k ↔ foot b Y T tv k) := hF
  have HY : Hid (∀ k, Y k → F k) := fun k hk => (hF k).2 (.inr (.inl hk))
  generalize hp : (⟨key, ⟨#[]⟩, true⟩ : Pair) = p at *
  have hg : p.gone = true → p.val.size = 0 := fun _ => by rw [← hp]; rfl
  clear hl hF hp hk
  have HNX : Hid (∀ (w1 : World) (Y' : Nat → Prop), St w1 B yb Y' (putL x.young p) → Kept Y w w1 → (∀ i, Y' i → Y i ∨ w.heap.size ≤ i) → Right { x with young := putL x.young p } → Ls w1 B b (foot b Y' T tv) { x with young := putL x.young p } ∧ (∀ k, foot b Y' T tv k → F k ∨ w.heap.size ≤ k)) := by
    intro w1 Y' st k1 n1 hr
    refine ⟨⟨yb, Y', T, tv, ts, Ls.young HL.out st k1 n1 hr, fun k => Iff.rfl⟩, ?_⟩
    rintro k (rfl | q | q | q)
    · exact .inl ((HF.out _).2 (.inl rfl))
    · exact (n1 k q).imp (HY.out k) id
    · exact .inl ((HF.out _).2 (.inr (.inr (.inl q))))
    · exact .inl ((HF.out _).2 (.inr (.inr (.inr q))))
  by_cases he : putE x.young p = 0
  · obtain ⟨e1, e2⟩ := putted_good he
    have HR : Hid (Right { x with young := withP x.young p }) := HL.out.right.put he hg
    have HX : Hid (putted x p = (if x.limit ≤ (withP x.young p).length then flushed { x with young := withP x.young p } else { x with young := withP x.young p })) := e1
    rw [he, errv0] at cP
    rw [he]
    rw [e2] at cP HNX
    clear e1 e2 he HL HF hg
    go_enter Tryz.func68, Tryz.ntmps68
    go_wp2_with fail
    refine cP.mono ?_
    rintro e w1 ⟨rfl, Y', st, k1, n1⟩
    obtain ⟨l1, n2⟩ := HNX.out w1 Y' st k1 n1 HR.out
    have cF := full_any l1 (with_size x p hs) (with_some x.young p)
    have HK1 : Hid (Kept F w w1) := k1.mono HY.out
    have HN2 : Hid (∀ k, foot b Y' T tv k → F k ∨ w.heap.size ≤ k) := n2
    clear cP st k1 n1 l1 n2 HNX
    go_wp2_with fail
    refine cF.mono ?_
    rintro e w2 ⟨rfl, ⟨F2, l2, n2⟩, k2⟩
    have HE : Hid ((∃ F', Ls w2 B b F' (putted x p) ∧ ∀ k, F' k → F k ∨ w.heap.size ≤ k) ∧ Kept F w w2) := by
      refine ⟨⟨F2, by rw [HX.out]; exact l2, fun k hk => ?_⟩, HK1.out.trans k2 HN2.out⟩
      rcases n2 k hk with q | q
      · exact HN2.out k q
      · exact .inr (Nat.le_trans HK1.out.size q)
    clear cF l2 n2 k2
    go_wp2_with fail
    go_ret
    exact ⟨rfl, HE.out⟩
  · obtain ⟨e1, e2⟩ := putted_bad he
    have hpo := errv_pos (putE x.young p) (by omega)
    have HR : Hid (Right x) := HL.out.right
    have HX : Hid (putted x p = x) := e1
    rw [e2] at cP HNX
    clear e1 e2 HL HF hg
    rw [hpo] at cP ⊢
    generalize putE x.young p = E at *
    go_enter Tryz.func68, Tryz.ntmps68
    go_wp2_with fail
    refine cP.mono ?_
    rintro e w1 ⟨rfl, Y', st, k1, n1⟩
    obtain ⟨l1, n2⟩ := HNX.out w1 Y' st k1 n1 HR.out
    have HE : Hid ((∃ F', Ls w1 B b F' (putted x p) ∧ ∀ k, F' k → F k ∨ w.heap.size ≤ k) ∧ Kept F w w1) := ⟨⟨_, by rw [HX.out]; exact l1, n2⟩, k1.mono HY.out⟩
    clear cP st k1 n1 l1 n2 HNX
    go_wp2_with fail
    go_ret
    exact ⟨rfl, HE.out⟩

def News (limit : Int) (B : Nat) (w : World) (e : Ending) (w' : World) : Prop := ∃ v, e = .returned (.tuple #[v, errv (newE limit)]) ∧ (newE limit = 0 → ∃ b F, v = .pointer (some ⟨b, 0, none⟩) ∧ Ls w' B b F ⟨limit.toNat, [], []⟩ ∧ ∀ k, F k → w.heap.size ≤ k) ∧ Below w.heap.size w w'
theorem new_any (limit : Int) (w : World) (B : Nat) (hB : B ≤ w.heap.size) : Calls Tryz.prog 20 #[.int .i64 limit] w fun e w' => News limit B w e w' := by
  by_cases h1 : limit < 1
  · have he : newE limit = 1 := if_pos (.inl h1)
    have HE : Hid (∀ v, News limit B w (.returned (.tuple #[v, errv 1])) w) := fun v => ⟨v, by rw [he], (fun q => by rw [he] at q; cases q), Below.refl _ _⟩
    rw [errv_pos 1 (by decide)] at HE
    clear he
    go_enter Tryz.func20, Tryz.ntmps20
    go_wp2_with fail
    go_ret2
    exact HE.out _
  · by_cases h2 : 60 < limit
    · have he : newE limit = 1 := if_pos (.inr h2)
      have HE : Hid (∀ v, News limit B w (.returned (.tuple #[v, errv 1])) w) := fun v => ⟨v, by rw [he], (fun q => by rw [he] at q; cases q), Below.refl _ _⟩
      rw [errv_pos 1 (by decide)] at HE
      clear he
      go_enter Tryz.func20, Tryz.ntmps20
      go_wp2_with fail
      go_ret2
      exact HE.out _
    · have he : newE limit = 0 := if_neg (by omega)
      obtain ⟨m, rfl⟩ := Int.eq_ofNat_of_zero_le (show 0 ≤ limit by omega)
      have i1 : ¬ (m : Int) < 1 := by omega
      have i2 : ¬ 60 < (m : Int) := by omega
      have cN := WalkSto.new_any w B hB
      have HZ : Hid (newE (m : Int) = 0) := he
      clear he h1 h2
      go_enter Tryz.func20, Tryz.ntmps20
      go_wp2_with fail
      refine cN.mono ?_
      rintro e w1 ⟨yb, Y, rfl, st, n1, b1⟩
      have HE : Hid (Ls (w1.alloc (.cells #[.int .i64 (m : Int), ptr yb, .slice none 0 0] 69)) B w1.heap.size (foot w1.heap.size Y (fun _ => False) (.slice none 0 0)) ⟨m, [], []⟩ ∧ (∀ k, foot w1.heap.size Y (fun _ => False) (.slice none 0 0) k → w.heap.size ≤ k) ∧ Below w.heap.size w (w1.alloc (.cells #[.int .i64 (m : Int), ptr yb, .slice none 0 0] 69))) := by
        have b2 : Below w1.heap.size w1 (w1.alloc (.cells #[.int .i64 (m : Int), ptr yb, .slice none 0 0] 69)) := (Below.refl _ _).alloc (Nat.le_refl _) _
        have hs1 := b1.size
        refine ⟨⟨yb, Y, fun _ => False, .slice none 0 0, [], ?_, fun k => Iff.rfl⟩, ?_, bt b1 b2⟩
        · refine ⟨World.rowIs_alloc _ _ _ _ fun i hi => ?_, st.below b2, World.ownsRow_nil _ _ _ _, Tbs.nil _ _ _, by show B ≤ w1.heap.size; omega, ⟨fun q => ?_, by simp [Value.ownBlock], fun q => q⟩, fun k _ => ⟨by simp [Value.ownBlock], fun q => q⟩, fun k q => q.elim, fun k q => q.elim, ⟨⟨Lsms.rising_nil, (fun p hp => by cases hp)⟩, (fun l hl => by cases hl), Nat.zero_le _⟩⟩
          · match i, hi with
            | 0, _ | 1, _ | 2, _ => rfl
            | i + 3, q => simp at q; omega
          · have := (st.foot _ q).2
            omega
        · rintro k (q | q | q | q)
          · omega
          · exact n1 k q
          · cases q
          · exact q.elim
      clear cN st n1 b1
      unfold ptr at HE
      go_wp2_with fail
      go_ret2
      exact ⟨_, by rw [HZ.out, errv0]; rfl, fun _ => ⟨_, _, rfl, HE.out.1, HE.out.2.1⟩, HE.out.2.2⟩

theorem merge_any {w : World} {B b : Nat} {F : Nat → Prop} {x : Lsm} (h : Ls w B b F x) (hs : x.size ≤ 10001) :
    Calls Tryz.prog 101 #[.pointer (some ⟨b, 0, none⟩)] w fun e w' => e = .returned (errv (mergeE x)) ∧ (∃ F', Ls w' B b F' (merged x) ∧ ∀ k, F' k → F k ∨ w.heap.size ≤ k) ∧ Kept F w w' := merge_in h hs
theorem flush_any {w : World} {B b : Nat} {F : Nat → Prop} {x : Lsm} (h : Ls w B b F x) (hs : x.size ≤ 10001) :
    Calls Tryz.prog 95 #[.pointer (some ⟨b, 0, none⟩)] w fun e w' => e = .returned (errv (flushE x)) ∧ (∃ F', Ls w' B b F' (flushed x) ∧ ∀ k, F' k → F k ∨ w.heap.size ≤ k) ∧ Kept F w w' := flush_in h hs

end Go.Proofs.YtofaegcljcpceagGreatDoor.WalkLs

/-
  What package lsm tells of an Lsm: All, Tables, Get.
-/
namespace Go.Proofs.YtofaegcljcpceagGreatDoor.WalkLs
open Go.RowKit
open Lists (Row bt strs)
open Keeps (Kept owns_kept owns_base)
open Wides (Wide)
open Stores (Pair find)
open PairRows (cells)
open Lsms (Lsm total live getLV getLE)
open WalkConcat (Fresh Own Owns)
open WalkStoSet (St)
open WalkTab (TbF Tb)
open Errs (errv errv0 errv_pos)
open Nums (str)

/-! all that one can get -/
/-- the young ones put ahead of the levels -/
theorem told_cons {r : List (List Pair)} {w w1 w2 w3 : World} {v v2 v3 : Value} {vs : List Value} {l : List Pair} (h : Told r w v vs w1) (b2 : Below w1.heap.size w1 w2) (o2 : w2.ownsRow w1.heap.size 31 3 v2 l.length (cells l))
    (o3 : w3.ownsRow w.heap.size 32 1 v3 (vs.length + 1) (vs.take 0 ++ [v2] ++ vs.drop 0)) (k3 : Kept (fun k => v.ownBlock = some k) (w2.alloc (.cells #[v2] 32)) w3) :
    w3.ownsRow w.heap.size 32 1 v3 (v2 :: vs).length (v2 :: vs) ∧ Owns w3 (v2 :: vs) (l :: r) ∧ Below w.heap.size w w3 := by
  obtain ⟨h1, h2, h3, h4⟩ := h
  have b6 : Below w1.heap.size w1 (w2.alloc (.cells #[v2] 32)) := b2.alloc b2.size _
  have hv6 := owns_kept h1 (Kept.of_below (fun _ => False) b6) fun _ _ q => q
  have hu6 : (w2.alloc (.cells #[v2] 32)).ownsRow w1.heap.size 31 3 v2 l.length (cells l) := o2.alloc _
  have h26 := h2.below b6
  refine ⟨o3, ⟨by simp [h2.1], fun i v' l' q1 q2 => ?_⟩, h4.trans (Below.trans (b6.mono h4.size) (k3.below (fun i hi => (h1.lt i hi).1) (Nat.le_trans h4.size b6.size)))⟩
  have hown : Own (w2.alloc (.cells #[v2] 32)) v' l' := by
    cases i with
    | zero =>
      obtain rfl : v2 = v' := by simpa using q1
      obtain rfl : l = l' := by simpa using q2
      exact ⟨_, hu6⟩
    | succ i => exact h26.2 i v' l' (by simpa using q1) (by simpa using q2)
  refine hown.kept k3 fun j hj => ?_
  obtain ⟨B', ho⟩ := hown
  exact own_apart ho hv6 (by decide) j hj

theorem ins_lev {r : List (List Pair)} {w w1 w2 : World} {v v2 : Value} {vs : List Value} {l : List Pair} (h : Told r w v vs w1) (b2 : Below w1.heap.size w1 w2) (o2 : w2.ownsRow w1.heap.size 31 3 v2 l.length (cells l)) (hf : vs.length ≤ 1000) :
    Calls Tryz.prog 28 #[v, .int .i64 0, .slice (some ⟨w2.heap.size, 0, none⟩) 1 1] (w2.alloc (.cells #[v2] 32)) fun e w3 => ∃ v3, e = .returned v3 ∧ w3.ownsRow w.heap.size 32 1 v3 (v2 :: vs).length (v2 :: vs) ∧ Owns w3 (v2 :: vs) (l :: r) ∧ Below w.heap.size w w3 := by
  have hone : v2.oneCell' = true := by
    rcases o2.2 with ⟨rfl, _⟩ | ⟨g, c, cur, rfl, _⟩ <;> rfl
  have b6 : Below w1.heap.size w1 (w2.alloc (.cells #[v2] 32)) := b2.alloc b2.size _
  have hv6 := owns_kept h.1 (Kept.of_below (fun _ => False) b6) fun _ _ q => q
  have hs1 := h.2.2.2.size
  have hs2 := b2.size
  refine (WalkIns1.insertLev vs v2 v w.heap.size w2.heap.size 0 (w2.alloc (.cells #[v2] 32)) hv6 (Nat.zero_le _) hf (heap_alloc_new w2 _) hone h.2.2.1 (fun e => ?_) (by simp; omega)).mono ?_
  · have := (h.1.lt _ e).2
    omega
  · rintro e w3 ⟨v3, rfl, o3, k3, _⟩
    exact ⟨v3, rfl, told_cons h b2 o2 o3 k3⟩

set_option maxHeartbeats 4000000 in
set_option maxRecDepth 100000 in
theorem all_any {w : World} {B b : Nat} {F : Nat → Prop} {x : Lsm} (h : Ls w B b F x) (hs : x.size ≤ 10000) :
    Calls Tryz.prog 9 #[.pointer (some ⟨b, 0, none⟩)] w fun e w' => ∃ v, e = .returned v ∧ w'.ownsRow w.heap.size 31 3 v x.all.length (cells x.all) ∧ Below w.heap.size w w' := by
  obtain ⟨yb, Y, T, tv, ts, hl, _⟩ := h
  have hfew := hl.right.few
  have htl := hl.each.1
  have HL : Hid (∀ w1, Below w.heap.size w w1 → Lay w1 B b x yb Y T tv ts) := fun w1 b1 => hl.below b1
  have HC1 : Hid (∀ w1, Below w.heap.size w w1 → w1.cell? ⟨b, 1, none⟩ = some (.pointer (some ⟨yb, 0, none⟩))) := fun w1 b1 => (hl.below b1).row.cell (i := 1) (by omega)
  have c1 : w.cell? ⟨b, 1, none⟩ = some (.pointer (some ⟨yb, 0, none⟩)) := hl.row.cell (i := 1) (by omega)
  have c1d : w.drew.cell? ⟨b, 1, none⟩ = some (.pointer (some ⟨yb, 0, none⟩)) := c1
  have HA : Hid (∀ w1, Below w.heap.size w w1 → Calls Tryz.prog 29 #[.pointer (some ⟨b, 0, none⟩)] w1 fun e w' => ∃ v vs, e = .returned v ∧ Told x.levels w1 v vs w') := fun w1 b1 => levels_any (hl.below b1) (by omega)
  have HY : Hid (∀ w1, Below w.heap.size w w1 → Calls Tryz.prog 30 #[.pointer (some ⟨yb, 0, none⟩)] w1 fun e w' => ∃ v, e = .returned v ∧ w'.ownsRow w1.heap.size 31 3 v x.young.length (cells x.young) ∧ Below w1.heap.size w1 w') := fun w1 b1 => WalkSto.all_any (hl.below b1).young
  have HT : Hid (total (x.young :: x.levels) ≤ 1000000) := by show total _ ≤ _; unfold Lsm.size at hs; simp only [Lsms.total]; omega
  have HFW : Hid (x.levels.length ≤ 8) := hfew
  clear hl hfew htl
  go_enter Tryz.func9, Tryz.ntmps9
  go_upto_region 1 with fail
  go_region_held3 (fun w' => w'.cell? ⟨b, 1, none⟩ = some (.pointer (some ⟨yb, 0, none⟩))) (first | exact s1 | go_keep)
    (first | (go_at_call 29; refine (HA.out _ (Below.refl _ _).drew).mono ?_; rintro e w1 ⟨v1, vs, rfl, ht⟩; have HT1 : Hid (Told x.levels w.drew v1 vs w1) := ht; have HB1 : Hid (Below w.heap.size w w1) := bt (Below.refl _ w).drew ht.2.2.2; have s1 := HC1.out _ HB1.out; obtain ⟨a1, cp1, rfl, q1⟩ := Keeps.owns_row ht.1; clear q1 ht) | (go_at_call 30; refine (HY.out _ HB1.out).mono ?_; rintro e w2 ⟨v2, rfl, o2, b2⟩; have HB2 : Hid (Below w.heap.size w w2) := bt HB1.out b2; have s1 := HC1.out _ HB2.out; have H2 : Hid (Below w1.heap.size w1 w2 ∧ w2.ownsRow w1.heap.size 31 3 v2 x.young.length (cells x.young)) := ⟨b2, o2⟩; obtain ⟨a2, cp2, rfl, q2⟩ := Wides.owns_wide o2; clear q2 o2 b2) | (go_at_call 28; refine (ins_lev HT1.out H2.out.1 H2.out.2 (by have h7 := HT1.out.2.1.1; have h8 := HFW.out; omega)).mono ?_; rintro e w3 ⟨v3, rfl, o3, ow3, b3⟩; have HB3 : Hid (Below w.heap.size w w3) := bt (Below.refl _ w).drew b3; have s1 := HC1.out _ HB3.out; obtain ⟨a3, cp3, rfl, hr3, _⟩ := Keeps.owns_row o3; have H3 : Hid (Row w3 a3 (Value.slice a2 x.young.length cp2 :: vs).length cp3 (Value.slice a2 x.young.length cp2 :: vs) ∧ Owns w3 (Value.slice a2 x.young.length cp2 :: vs) (x.young :: x.levels)) := ⟨hr3, ow3⟩; clear o3 ow3 b3 hr3) | (go_at_call 27; refine (WalkLiving.living_any _ _ _ _ _ _ H3.out.1 H3.out.2 (by have h7 := HT1.out.2.1.1; have h8 := HFW.out; simp only [List.length_cons]; omega) HT.out).mono ?_; rintro e w4 ⟨v4, rfl, o4, b4⟩; have HB4 : Hid (Below w.heap.size w w4) := bt HB3.out b4; have s1 := HC1.out _ HB4.out; have HO4 : Hid (w4.ownsRow w.heap.size 31 3 v4 x.all.length (cells x.all)) := owns_base o4 HB3.out.size; clear o4 b4))
  go_wp2_with fail
  go_ret
  exact ⟨v4, rfl, HO4.out, HB4.out⟩

/-! the tables, as bytes -/
theorem infoStr : (Tryz.prog.info? 9).map (fun i => (i.zero, i.size, i.bytes)) = some (some (.string ⟨#[]⟩), 1, 16) := by kernel_rfl
def texts (r : List (List Pair)) : List ByteArray := r.map fun l => str (Tabs.table l)
theorem texts_next {r : List (List Pair)} {k : Nat} {l : List Pair} (h : r[k]? = some l) : texts (r.take (k + 1)) = texts (r.take k) ++ [str (Tabs.table l)] := by
  obtain ⟨hk, rfl⟩ := List.getElem?_eq_some_iff.1 h
  unfold texts
  rw [List.take_succ_eq_append_getElem hk, List.map_append]
  rfl
theorem strs_append (a b : List ByteArray) : strs (a ++ b) = strs a ++ strs b := List.map_append ..

set_option maxHeartbeats 4000000 in
set_option maxRecDepth 100000 in
theorem tables_any {w : World} {B b : Nat} {F : Nat → Prop} {x : Lsm} (h : Ls w B b F x) (hs : x.size ≤ 10000) :
    Calls Tryz.prog 18 #[.pointer (some ⟨b, 0, none⟩)] w fun e w' => ∃ v, e = .returned v ∧ w'.ownsRow w.heap.size 9 1 v x.levels.length (strs (x.levels.map fun l => str (Tabs.table l))) ∧ Below w.heap.size w w' := by
  obtain ⟨i0, hi, hz0, hz1, hz2⟩ := info_parts infoStr
  obtain ⟨yb, Y, T, tv, ts, hl, _⟩ := h
  have hright := hl.right
  have hfew := hright.few
  have htl := hl.each.1
  have cL := levels_any hl (by omega)
  have HP : Hid (∀ l ∈ x.levels, Tabs.pairsE l = 0 ∧ l.length ≤ 10000) := fun l hl2 => ⟨LsmFines.pairs_of (hright.levels l hl2).1 (hright.levels l hl2).2, by
    have := LsmFines.total_mem hl2
    unfold Lsm.size at hs
    omega⟩
  generalize hN : x.levels.length = N at *
  have HN : Hid (x.levels.length = N) := hN
  have HG : Hid (N ≤ 8) := hfew
  clear hl hright htl hN
  go_enter Tryz.func18, Tryz.ntmps18
  go_upto_region 1 with fail
  go_wp2_with fail
  refine cL.mono ?_
  rintro e w1 ⟨v1, vs, rfl, ht⟩
  obtain ⟨a1, cp1, rfl, hr1, _⟩ := Keeps.owns_row ht.1
  have hvl : vs.length = N := by rw [ht.2.1.1]; exact HN.out
  have HR1 : Hid (Row w1 a1 N cp1 vs) := by rw [← hvl]; exact hr1
  have HO1 : Hid (Owns w1 vs x.levels) := ht.2.1
  have HB1 : Hid (Below w.heap.size w w1) := ht.2.2.2
  have HVL : Hid (vs.length = N) := hvl
  clear cL ht hr1
  rw [hvl]
  clear hvl
  go_upto_region 2 with fail
  go_loopw [2, 4, 5, 6, 10] (fun v _ _ _ kv wr => ∃ k : Nat, k ≤ N ∧ kv = .int .i64 (k : Int) ∧ Hid (wr.ownsRow w1.heap.size 9 1 v k (strs (texts (x.levels.take k)))) ∧ Hid (Below w1.heap.size w1 wr)) (fun _ _ _ _ kv _ => N - (intOf kv).toNat)
  case atStart => exact ⟨0, Nat.zero_le _, rfl, World.ownsRow_nil _ _ _ _, Below.refl _ _⟩
  case round =>
    obtain ⟨k, hk, rfl, HO, HB⟩ := hrel
    by_cases hlt : k < N
    · have i1 : (k : Int) < (N : Int) := by omega
      obtain ⟨v, hv⟩ : ∃ v, vs[k]? = some v := ⟨vs[k]'(by have := HVL.out; omega), List.getElem?_eq_getElem _⟩
      obtain ⟨l, hl⟩ : ∃ l, x.levels[k]? = some l := ⟨x.levels[k]'(by have := HN.out; omega), List.getElem?_eq_getElem _⟩
      obtain ⟨hp0, hll⟩ := HP.out l (List.mem_of_getElem? hl)
      obtain ⟨B', hown⟩ := (HO1.out.below HB.out).2 k v l hv hl
      obtain ⟨b1, off1, rfl, _⟩ := HR1.out.2.2 (by omega)
      have c0 := (HR1.out.below HB.out).at k v hv
      obtain ⟨av, cv, rfl, hw⟩ := Wides.owns_wide hown
      have cB := WalkTab.build_any l av l.length cv wr hw (fun e he => by have := (Tabs.pairs_ok hp0).1 e he; unfold maxLen; omega) (by omega)
      have hbv : Tabs.buildV l = Tabs.table l := if_pos hp0
      rw [hp0, errv0, hbv] at cB
      have HNX : Hid (strs (texts (x.levels.take (k + 1))) = strs (texts (x.levels.take k)) ++ [.string (str (Tabs.table l))]) := by show _ = _; rw [texts_next hl, strs_append]; rfl
      generalize str (Tabs.table l) = S at cB HNX
      have HBs : Hid (w.heap.size ≤ wr.heap.size) := Nat.le_trans HB1.out.size HB.out.size
      clear hv hl hp0 hown hw hbv
      go_wp2_with fail
      refine cB.mono ?_
      rintro e w5 ⟨rfl, b5⟩
      have HO5 : Hid (w5.ownsRow w1.heap.size 9 1 u2 k (strs (texts (x.levels.take k)))) := owns_kept HO.out (Kept.of_below (fun _ => False) b5) fun _ _ q => q
      have HB5 : Hid (Below w1.heap.size w1 w5) := bt HB.out b5
      have HBs5 : Hid (w1.heap.size ≤ w5.heap.size) := HB5.out.size
      have HF5 : Hid (∀ j, Value.ownBlock u2 = some j → w1.heap.size ≤ j) := fun j hj => (HO.out.lt j hj).1
      have HFF : Hid (∀ wn, (w5.alloc (.cells #[.string S] 9)).grownBy wn u2.ownBlock → Below w1.heap.size w1 wn) := fun wn gr => (HB5.out.alloc HBs5.out _).grown gr (by have := HBs5.out; simp; omega) HF5.out
      clear cB b5 HO HB
      go_wp2_with (at_builtin; go_must (refine wpList_append_own _ rfl (.tmp 19) (.tmp 21) 48 rfl w1.heap.size 9 i0 (.string ⟨#[]⟩) 1 16 Tryz.underlying48 hi hz0 hz1 hz2 rfl (by decide) _ _ _ rfl (HO5.out.alloc _) ⟨_, 0, none⟩ 1 1 [.string S] rfl rfl (cell_one_new _ _ _) (fun u hu => by rw [List.mem_singleton.1 hu]; rfl) (by have := HG.out; unfold maxLen; omega) (by have := HG.out; omega) (by have := HBs5.out; simp; omega) ?_); intro v1 wn o1 g1 z1; clear z1; have HO6 : Hid (wn.ownsRow w1.heap.size 9 1 v1 (k + 1) (strs (texts (x.levels.take (k + 1))))) := (by show World.ownsRow _ _ _ _ _ _ _; rw [HNX.out]; exact o1); have HB6 : Hid (Below w1.heap.size w1 wn) := HFF.out wn g1; clear o1 g1)
      go_roundw
      case rel => exact ⟨k + 1, by omega, by go_num, HO6, HB6⟩
      case measure => simp [intOf]; omega
    · obtain rfl : k = N := by omega
      have i1 : ¬ (k : Int) < (k : Int) := by omega
      have HE : Hid (wr.ownsRow w.heap.size 9 1 u2 k (strs (x.levels.map fun l => str (Tabs.table l))) ∧ Below w.heap.size w wr) := by
        have h := HO.out
        rw [List.take_of_length_le (by have := HN.out; omega)] at h
        exact ⟨owns_base h HB1.out.size, bt HB1.out HB.out⟩
      clear HO HB
      go_wp2_with fail
      go_ret
      exact ⟨u2, rfl, HE.out⟩

/-! the youngest of a key -/

end Go.Proofs.YtofaegcljcpceagGreatDoor.WalkLs

