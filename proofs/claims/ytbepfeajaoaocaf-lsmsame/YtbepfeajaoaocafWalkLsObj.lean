/-
  An Lsm of the program as an object: its store of what is young, and its tables; and what the program tells of its levels.
-/
import Derived.Test.YtbepfeajaoaocafWalkLiving
import Derived.Test.YtbepfeajaoaocafWalkSto
import Derived.Test.YtbepfeajaoaocafWalkIns1
namespace Go.Proofs.Ytbepfeajaoaocaf.WalkLs
open Go.RowKit
open Lists (Row bt)
open Keeps (Kept owns_kept owns_base)
open Wides (Wide)
open Stores (Pair)
open PairRows (cells)
open Lsms (Lsm total live)
open WalkConcat (Fresh Own Owns)
open WalkStoSet (St)
open WalkTab (TbF Tb)

def ptr (b : Nat) : Value := .pointer (some ⟨b, 0, none⟩)
def fields (limit : Nat) (y t : Value) (j : Nat) : Value := if j = 0 then .int .i64 (limit : Int) else if j = 1 then y else t
/-- the tables in the blocks ts, all of their blocks in T -/
def Tbs (w : World) (B : Nat) (T : Nat → Prop) (ts : List Nat) (r : List (List Pair)) : Prop :=
  ts.length = r.length ∧ ∀ (i tb : Nat) (l : List Pair), ts[i]? = some tb → r[i]? = some l → ∃ u, TbF w B tb u l ∧ T tb ∧ ∀ k, u.ownBlock = some k → T k
/-- what is never left -/
structure Right (x : Lsm) : Prop where
  young : Stores.Rising x.young ∧ ∀ p ∈ x.young, LsmFines.Ok p
  levels : ∀ l ∈ x.levels, Stores.Rising l ∧ ∀ p ∈ l, LsmFines.Ok p
  few : x.levels.length ≤ 8
structure Lay (w : World) (B b : Nat) (x : Lsm) (yb : Nat) (Y T : Nat → Prop) (tv : Value) (ts : List Nat) : Prop where
  row : w.rowIs b 47 3 (fields x.limit (ptr yb) tv)
  young : St w B yb Y x.young
  tabs : w.ownsRow B 56 1 tv ts.length (ts.map ptr)
  each : Tbs w B T ts x.levels
  above : B ≤ b
  offb : ¬ Y b ∧ tv.ownBlock ≠ some b ∧ ¬ T b
  offY : ∀ k, Y k → tv.ownBlock ≠ some k ∧ ¬ T k
  offT : ∀ k, T k → tv.ownBlock ≠ some k
  tlt : ∀ k, T k → B ≤ k ∧ k < w.heap.size
  right : Right x
def foot (b : Nat) (Y T : Nat → Prop) (tv : Value) (k : Nat) : Prop := k = b ∨ Y k ∨ tv.ownBlock = some k ∨ T k
/-- block b holds an Lsm; F are its blocks -/
def Ls (w : World) (B b : Nat) (F : Nat → Prop) (x : Lsm) : Prop := ∃ yb Y T tv ts, Lay w B b x yb Y T tv ts ∧ ∀ k, F k ↔ foot b Y T tv k

theorem Tbs.kept {S : Nat → Prop} {w w' : World} {B : Nat} {T : Nat → Prop} {ts : List Nat} {r : List (List Pair)} (h : Tbs w B T ts r) (k : Kept S w w') (hS : ∀ i, T i → ¬ S i) : Tbs w' B T ts r :=
  ⟨h.1, fun i tb l h1 h2 => by
    obtain ⟨u, h3, h4, h5⟩ := h.2 i tb l h1 h2
    exact ⟨u, h3.kept k (hS tb h4) (fun j hj => hS j (h5 j hj)), h4, h5⟩⟩
theorem Tbs.mono {w : World} {B : Nat} {T U : Nat → Prop} {ts : List Nat} {r : List (List Pair)} (h : Tbs w B T ts r) (hU : ∀ k, T k → U k) : Tbs w B U ts r :=
  ⟨h.1, fun i tb l h1 h2 => by
    obtain ⟨u, h3, h4, h5⟩ := h.2 i tb l h1 h2
    exact ⟨u, h3, hU _ h4, fun j hj => hU _ (h5 j hj)⟩⟩
theorem Tbs.cons {w : World} {B : Nat} {T : Nat → Prop} {ts : List Nat} {r : List (List Pair)} (h : Tbs w B T ts r) {tb : Nat} {u : Value} {l : List Pair} (h3 : TbF w B tb u l) (h4 : T tb) (h5 : ∀ k, u.ownBlock = some k → T k) : Tbs w B T (tb :: ts) (l :: r) := by
  refine ⟨by simp [h.1], fun i tb' l' h1 h2 => ?_⟩
  cases i with
  | zero =>
    obtain rfl : tb = tb' := by simpa using h1
    obtain rfl : l = l' := by simpa using h2
    exact ⟨u, h3, h4, h5⟩
  | succ i => exact h.2 i tb' l' (by simpa using h1) (by simpa using h2)
theorem Tbs.nil (w : World) (B : Nat) (T : Nat → Prop) : Tbs w B T [] [] := ⟨rfl, fun i tb l h => by simp at h⟩
theorem Lay.foot_lt {w : World} {B b : Nat} {x : Lsm} {yb : Nat} {Y T : Nat → Prop} {tv : Value} {ts : List Nat} (h : Lay w B b x yb Y T tv ts) : ∀ k, foot b Y T tv k → B ≤ k ∧ k < w.heap.size := by
  rintro k (rfl | hk | hk | hk)
  · exact ⟨h.above, h.row.lt⟩
  · exact h.young.foot k hk
  · exact h.tabs.lt k hk
  · exact h.tlt k hk
theorem Lay.kept {S : Nat → Prop} {w w' : World} {B b : Nat} {x : Lsm} {yb : Nat} {Y T : Nat → Prop} {tv : Value} {ts : List Nat} (h : Lay w B b x yb Y T tv ts) (k : Kept S w w') (hS : ∀ i, foot b Y T tv i → ¬ S i) : Lay w' B b x yb Y T tv ts :=
  ⟨h.row.of_block (k.block b h.row.lt (hS b (.inl rfl))), h.young.kept k fun i hi => hS i (.inr (.inl hi)), owns_kept h.tabs k fun i hi => hS i (.inr (.inr (.inl hi))), h.each.kept k fun i hi => hS i (.inr (.inr (.inr hi))), h.above, h.offb, h.offY, h.offT, fun i hi => ⟨(h.tlt i hi).1, Nat.lt_of_lt_of_le (h.tlt i hi).2 k.size⟩, h.right⟩
theorem Lay.below {w w' : World} {B b : Nat} {x : Lsm} {yb : Nat} {Y T : Nat → Prop} {tv : Value} {ts : List Nat} (h : Lay w B b x yb Y T tv ts) (k : Below w.heap.size w w') : Lay w' B b x yb Y T tv ts := h.kept (Kept.of_below (fun _ => False) k) fun _ _ q => q
theorem Ls.foot {w : World} {B b : Nat} {F : Nat → Prop} {x : Lsm} (h : Ls w B b F x) : ∀ k, F k → B ≤ k ∧ k < w.heap.size := by
  obtain ⟨yb, Y, T, tv, ts, hl, hF⟩ := h
  exact fun k hk => hl.foot_lt k ((hF k).1 hk)
theorem Ls.kept {S : Nat → Prop} {w w' : World} {B b : Nat} {F : Nat → Prop} {x : Lsm} (h : Ls w B b F x) (k : Kept S w w') (hS : ∀ i, F i → ¬ S i) : Ls w' B b F x := by
  obtain ⟨yb, Y, T, tv, ts, hl, hF⟩ := h
  exact ⟨yb, Y, T, tv, ts, hl.kept k fun i hi => hS i ((hF i).2 hi), hF⟩

/-! rows of two types lie apart -/
theorem own_apart {w : World} {B1 B2 : Nat} {e1 e2 : TypeId} {s1 s2 n1 n2 : Nat} {v1 v2 : Value} {xs1 xs2 : List Value} (h1 : w.ownsRow B1 e1 s1 v1 n1 xs1) (h2 : w.ownsRow B2 e2 s2 v2 n2 xs2) (he : e1 ≠ e2) : ∀ k, v1.ownBlock = some k → v2.ownBlock ≠ some k := by
  intro k k1 k2
  rcases h1.2 with ⟨rfl, _⟩ | ⟨g1, c1, cur1, rfl, _, hh1, _⟩
  · cases k1
  · rcases h2.2 with ⟨rfl, _⟩ | ⟨g2, c2, cur2, rfl, _, hh2, _⟩
    · cases k2
    · simp only [Value.ownBlock, Option.some.injEq] at k1 k2
      subst k1
      subst k2
      rw [hh1] at hh2
      simp only [Option.some.injEq, Obj.cells.injEq] at hh2
      exact he hh2.2.1
theorem infoL : (Try.prog.info? 23).map (fun i => (i.zero, i.size, i.bytes)) = some (some (.slice none 0 0), 1, 24) := by kernel_rfl

/-- the levels, as they are told -/
def Told (r : List (List Pair)) (w : World) (v : Value) (vs : List Value) (w' : World) : Prop :=
  w'.ownsRow w.heap.size 23 1 v vs.length vs ∧ Owns w' vs r ∧ (∀ u ∈ vs, u.oneCell' = true) ∧ Below w.heap.size w w'
theorem told_next {r : List (List Pair)} {w wr w5 wn : World} {v v1 u : Value} {vs : List Value} {k : Nat} {l : List Pair} (h : Told (r.take k) w v vs wr) (hl : r[k]? = some l) (b5 : Below wr.heap.size wr w5) (hu : w5.ownsRow wr.heap.size 38 3 u l.length (cells l))
    (o1 : wn.ownsRow w.heap.size 23 1 v1 (vs.length + 1) (vs ++ [u])) (g1 : (w5.alloc (.cells #[u] 23)).grownBy wn v.ownBlock) : Told (r.take (k + 1)) w v1 (vs ++ [u]) wn := by
  obtain ⟨h1, h2, h3, h4⟩ := h
  have b6 : Below wr.heap.size wr (w5.alloc (.cells #[u] 23)) := b5.alloc b5.size _
  have hv6 := owns_kept h1 (Kept.of_below (fun _ => False) b6) fun _ _ q => q
  have hu6 : (w5.alloc (.cells #[u] 23)).ownsRow wr.heap.size 38 3 u l.length (cells l) := hu.alloc _
  have h26 := h2.below b6
  have kn : Kept (fun i => v.ownBlock = some i) (w5.alloc (.cells #[u] 23)) wn := (Kept.refl _ _).grown g1 fun i hi => .inl hi
  have hkl := (List.getElem?_eq_some_iff.1 hl).1
  have hvl : vs.length = k := by rw [h2.1, List.length_take]; omega
  have hone : u.oneCell' = true := by
    rcases hu.2 with ⟨rfl, _⟩ | ⟨g, c, cur, rfl, _⟩ <;> rfl
  have hr1 : r.take (k + 1) = r.take k ++ [l] := by
    obtain ⟨hk, rfl⟩ := List.getElem?_eq_some_iff.1 hl
    exact List.take_succ_eq_append_getElem hk
  refine ⟨by rw [List.length_append]; exact o1, ⟨by rw [List.length_append, hr1, List.length_append, h2.1]; rfl, fun i v' l' q1 q2 => ?_⟩, fun y hy => ?_, ?_⟩
  · have hown : Own (w5.alloc (.cells #[u] 23)) v' l' := by
      by_cases hi : i < k
      · rw [List.getElem?_append_left (by omega)] at q1
        rw [hr1, List.getElem?_append_left (by rw [List.length_take]; omega)] at q2
        exact h26.2 i v' l' q1 q2
      · have hik : i = k := by
          have := (List.getElem?_eq_some_iff.1 q1).1
          rw [List.length_append, hvl, List.length_singleton] at this
          omega
        subst hik
        rw [List.getElem?_append_right (by omega), hvl, Nat.sub_self] at q1
        rw [hr1, List.getElem?_append_right (by rw [List.length_take]; omega), List.length_take, show i - min i r.length = 0 by omega] at q2
        obtain rfl : u = v' := by simpa using q1
        obtain rfl : l = l' := by simpa using q2
        exact ⟨_, hu6⟩
    refine hown.kept kn fun j hj => ?_
    obtain ⟨B', ho⟩ := hown
    exact own_apart ho hv6 (by decide) j hj
  · rcases List.mem_append.1 hy with hy | hy
    · exact h3 y hy
    · rw [List.mem_singleton.1 hy]; exact hone
  · exact h4.trans (Below.trans (b6.mono h4.size) (kn.below (fun i hi => (h1.lt i hi).1) (Nat.le_trans h4.size b6.size)))

set_option maxHeartbeats 4000000 in
set_option maxRecDepth 100000 in
theorem levels_any {w : World} {B b : Nat} {x : Lsm} {yb : Nat} {Y T : Nat → Prop} {tv : Value} {ts : List Nat} (h : Lay w B b x yb Y T tv ts) (hn : ts.length ≤ 1000000) :
    Calls Try.prog 21 #[.pointer (some ⟨b, 0, none⟩)] w fun e w' => ∃ v vs, e = .returned v ∧ Told x.levels w v vs w' := by
  obtain ⟨i0, hi, hz0, hz1, hz2⟩ := info_parts infoL
  have c2 : w.cell? ⟨b, 2, none⟩ = some tv := h.row.cell (i := 2) (by omega)
  obtain ⟨ta, tc, rfl, hrow, _⟩ := Keeps.owns_row h.tabs
  have HR : Hid (Row w ta ts.length tc (ts.map ptr)) := hrow
  have HE : Hid (Tbs w B T ts x.levels) := h.each
  generalize hN : ts.length = N at *
  have HN : Hid (ts.length = N) := hN
  clear h hrow hN
  go_enter Try.func21, Try.ntmps21
  go_upto_region 3 with fail
  go_loopw [3, 5, 11] (fun v _ kv wr => ∃ (k : Nat) (vs : List Value), k ≤ N ∧ vs.length = k ∧ kv = .int .i64 (k : Int) ∧ Hid (Told (x.levels.take k) w v vs wr)) (fun _ _ kv _ => N - (intOf kv).toNat)
  case atStart => exact ⟨0, [], Nat.zero_le _, rfl, rfl, ⟨World.ownsRow_nil _ _ _ _, Owns.nil _, (fun u hu => by cases hu), Below.refl _ _⟩⟩
  case round =>
    obtain ⟨k, vs, hk, hvk, rfl, HT⟩ := hrel
    by_cases hlt : k < N
    · have i1 : (k : Int) < (N : Int) := by omega
      have hbw := HT.out.2.2.2
      obtain ⟨tb, htb⟩ : ∃ tb, ts[k]? = some tb := ⟨ts[k]'(by have := HN.out; omega), List.getElem?_eq_getElem _⟩
      obtain ⟨l, hl⟩ : ∃ l, x.levels[k]? = some l := ⟨x.levels[k]'(by have := HN.out; have := HE.out.1; omega), List.getElem?_eq_getElem _⟩
      obtain ⟨u, ht, _⟩ := HE.out.2 k tb l htb hl
      obtain ⟨b1, off1, rfl, _⟩ := HR.out.2.2 (by omega)
      have c0 := (HR.out.below hbw).at k (ptr tb) (by rw [List.getElem?_map, htb]; rfl)
      have cA := WalkTab.all_any l tb wr (Tb.below ⟨B, u, ht⟩ hbw)
      have HOo := HT.out.1
      have HNX : Hid (∀ (w5 wn : World) (v1 u : Value), Below wr.heap.size wr w5 → w5.ownsRow wr.heap.size 38 3 u l.length (cells l) → wn.ownsRow w.heap.size 23 1 v1 (vs.length + 1) (vs ++ [u]) → (w5.alloc (.cells #[u] 23)).grownBy wn u3.ownBlock → Told (x.levels.take (k + 1)) w v1 (vs ++ [u]) wn) := fun w5 wn v1 u b5 hu o1 g1 => told_next HT.out hl b5 hu o1 g1
      have HOw : Hid (wr.ownsRow w.heap.size 23 1 u3 vs.length vs) := HOo
      have HBs : Hid (w.heap.size ≤ wr.heap.size) := hbw.size
      unfold ptr at c0
      clear htb hl ht hbw HOo HT
      go_wp2_with fail
      refine cA.mono ?_
      rintro e w5 ⟨v5, rfl, o5, b5⟩
      have HO5 : Hid (w5.ownsRow w.heap.size 23 1 u3 vs.length vs) := owns_kept HOw.out (Kept.of_below (fun _ => False) b5) fun _ _ q => q
      have H5 : Hid (Below wr.heap.size wr w5 ∧ w5.ownsRow wr.heap.size 38 3 v5 l.length (cells l)) := ⟨b5, o5⟩
      have HBs5 : Hid (w.heap.size ≤ w5.heap.size) := Nat.le_trans HBs.out b5.size
      obtain ⟨a5, cp5, rfl, _⟩ := Wides.owns_wide o5
      clear cA b5 o5 HOw HBs
      go_wp2_with (at_builtin; go_must (refine wpList_append_own _ rfl (.tmp 15) (.tmp 18) 48 rfl w.heap.size 23 i0 (.slice none 0 0) 1 24 Try.underlying48 hi hz0 hz1 hz2 rfl (by decide) _ _ _ rfl (HO5.out.alloc _) ⟨_, 0, none⟩ 1 1 [.slice a5 l.length cp5] rfl rfl (cell_one_new _ _ _) (fun u hu => by rw [List.mem_singleton.1 hu]; rfl) (by unfold maxLen; omega) (by omega) (by have := HBs5.out; simp; omega) ?_); intro v1 wn o1 g1 z1; clear z1; have HT2 : Hid (Told (x.levels.take (k + 1)) w v1 (vs ++ [.slice a5 l.length cp5]) wn) := HNX.out w5 wn v1 _ H5.out.1 H5.out.2 o1 g1; clear o1 g1)
      go_roundw
      case rel => exact ⟨k + 1, _, by omega, by rw [List.length_append, hvk]; rfl, by go_num, HT2⟩
      case measure => simp [intOf]; omega
    · obtain rfl : k = N := by omega
      have i1 : ¬ (k : Int) < (k : Int) := by omega
      have HF : Hid (Told x.levels w u3 vs wr) := by
        have h := HT.out
        rw [List.take_of_length_le (by have := HN.out; have := HE.out.1; omega)] at h
        exact h
      go_wp2_with fail
      go_ret
      exact ⟨u3, rfl, vs, HF.out⟩

end Go.Proofs.Ytbepfeajaoaocaf.WalkLs
