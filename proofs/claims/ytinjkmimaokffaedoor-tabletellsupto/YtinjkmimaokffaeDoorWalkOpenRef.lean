/-
  What the document's own answer (package witref2) returns on bytes that may be a table: Open.
-/
import Derived.Test.YtinjkmimaokffaeDoorWalkTableRef
import Derived.Deep.RegionLaw
namespace Go.Proofs.YtinjkmimaokffaeDoor.WalkOpenRef
open Go.RowKit
open Lists (bt)
open Keeps (Kept owns_kept owns_base)
open Wides (Wide)
open Stores (Pair)
open PairRows (cells cells_append)
open Tabs (pairsE table take1 parse openT)
open WalkStoreRef (aggP sizeP eq_yes eq_no empty_yes empty_no)
open Nums (str)

def sizeS : Value → Nat | .string s => s.size | _ => 0

theorem take1_short {r : ByteArray} {a : UInt8} {q : List UInt8} (e : r.data.toList = a :: q) (h : r.size < 3 + a.toNat) : take1 r.data.toList = none := by
  have hl : q.length + 1 = r.size := by rw [← List.length_cons (a := a), ← e]; exact Array.length_toList
  rw [e, take1, if_pos (by omega)]
theorem cut_list (r : ByteArray) (i j : Nat) : r.extract i j = str ((r.data.toList.take j).drop i) := by
  apply ByteArray.ext
  apply Array.toList_inj.1
  simp [str, List.drop_take]
theorem take1_long {r : ByteArray} {a : UInt8} {q : List UInt8} {K : Nat} (e : r.data.toList = a :: q) (h : ¬ r.size < 3 + a.toNat) (hK : K = a.toNat + 1) :
    ∃ g v : UInt8, (∀ h, r[K]'h = g) ∧ (∀ h, r[K + 1]'h = v) ∧ ∀ E, E = K + 2 + v.toNat →
      take1 r.data.toList = if g.toNat ≤ 1 ∧ E ≤ r.size then some (⟨r.extract 1 K, r.extract (K + 2) E, decide (g.toNat = 1)⟩, (r.extract E r.size).data.toList) else none := by
  have hl : q.length + 1 = r.size := by rw [← List.length_cons (a := a), ← e]; exact Array.length_toList
  have h1 : a.toNat < q.length := by omega
  have h2 : a.toNat + 1 < q.length := by omega
  have hd : q.drop a.toNat = q[a.toNat] :: q[a.toNat + 1] :: q.drop (a.toNat + 2) := by
    rw [List.drop_eq_getElem_cons h1, List.drop_eq_getElem_cons h2]
  have hg : ∀ (i : Nat) (hi : i < q.length) (h : i + 1 < r.size), r[i + 1]'h = q[i] := by
    intro i hi h
    have h3 : r.data.toList[i + 1]'(by rw [e]; simpa using hi) = q[i] := by simp only [e, List.getElem_cons_succ]
    rw [← h3]
    rfl
  refine ⟨q[a.toNat], q[a.toNat + 1], fun h => ?_, fun h => ?_, fun E hE => ?_⟩
  · subst hK
    exact hg _ h1 h
  · subst hK
    exact hg _ h2 h
  · have hsz : r.size = r.data.toList.length := Array.length_toList.symm
    rw [cut_list, cut_list, cut_list, Nums.str_data, hsz, List.take_length, e, take1, if_neg (by omega), hd]
    simp only
    generalize q[a.toNat + 1] = v at hE
    have hlt : (q.drop (a.toNat + 2)).length = q.length - (a.toNat + 2) := List.length_drop
    have c1 : (q[a.toNat].toNat ≤ 1 ∧ v.toNat ≤ (q.drop (a.toNat + 2)).length) ↔ (q[a.toNat].toNat ≤ 1 ∧ E ≤ (a :: q).length) := by
      rw [hlt, List.length_cons]
      constructor
      · rintro ⟨x, y⟩; exact ⟨x, by omega⟩
      · rintro ⟨x, y⟩; exact ⟨x, by omega⟩
    by_cases hc : q[a.toNat].toNat ≤ 1 ∧ E ≤ (a :: q).length
    · rw [if_pos (c1.2 hc), if_pos hc]
      subst hK
      subst hE
      have e1 : List.drop 1 (List.take (a.toNat + 1) (a :: q)) = q.take a.toNat := by simp
      have e2 : List.drop (a.toNat + 1 + 2) (List.take (a.toNat + 1 + 2 + v.toNat) (a :: q)) = (q.drop (a.toNat + 2)).take v.toNat := by
        rw [← List.take_drop]
        rfl
      have e3 : List.drop (a.toNat + 1 + 2 + v.toNat) (a :: q) = (q.drop (a.toNat + 2)).drop v.toNat := by
        rw [List.drop_drop, show a.toNat + 1 + 2 + v.toNat = (a.toNat + 2 + v.toNat) + 1 by omega, List.drop_succ_cons]
      rw [e1, e2, e3]
    · rw [if_neg (fun x => hc (c1.1 x)), if_neg hc]

theorem infoP : (Tryd.prog.info? 36).map (fun i => (i.zero, i.size, i.bytes)) = some (some (.agg #[.string ⟨#[]⟩, .string ⟨#[]⟩, .bool false]), 3, 40) := by kernel_rfl
theorem cell_three_new (w : World) (x y z : Value) (t : TypeId) : ∀ j u, [x, y, z][j]? = some u → (w.alloc (.cells #[x, y, z] t)).cell? ((⟨w.heap.size, 0, none⟩ : Addr).add j) = some u := by
  intro j u hj
  match j, hj with
  | 0, hj => simp at hj; subst hj; simp [Addr.add]
  | 1, hj => simp at hj; subst hj; simp [Addr.add]
  | 2, hj => simp at hj; subst hj; simp [Addr.add]

/-- append onto a slice of the call's own, as one step of a region that draws -/
theorem step_append_own {P : Program} {ops : Array Oper} {o : Oper} {a : Act} {w : World} {K : Act → World → Prop} {Q : Exit → Act → World → Prop} {E : Prop} (hgd : o.guard = none) (s x : Operand) (t : TypeId)
    (ho : o.op = .call { callee := .builtin .append, args := #[s, x], argTypes := #[t, t] })
    (base : Nat) (e : TypeId) (i : TypeInfo) (z : Value) (size bytes : Nat) (ht : P.underlying t = some (.slice e)) (hi : P.info? e = some i) (hz : i.zero = some z)
    (hsize : i.size = size) (hby : i.bytes = bytes) (hzs : z.cells.size = size) (hsz : 0 < size)
    (v : Value) (n : Nat) (xs : List Value) (hs : a.eval s = v) (hown : w.ownsRow base e size v n xs)
    (ad : Addr) (m c : Nat) (news : List Value) (hx : a.eval x = .slice (some ad) m c) (hl : news.length = m * size) (hnews : ∀ j u, news[j]? = some u → w.cell? (ad.add j) = some u) (h1 : ∀ u ∈ news, u.oneCell' = true)
    (h63 : n + m ≤ maxLen) (hbytes : (n + m) * bytes ≤ 140737488355328) (hbase : base ≤ w.heap.size)
    (h : ∀ v' w', w'.ownsRow base e size v' (n + m) (xs ++ news) → w.grownBy w' v.ownBlock → K (a.put o.dst v') w') : if Region.wanted o (yielded ops a.tmps) = true then Oper.wp P o a w K Q else E := by
  rw [if_pos (by simp [Region.wanted, hgd])]
  exact wp_append_own w s x t ho base e i z size bytes ht hi hz hsize hby hzs hsz v n xs hs hown ad m c news hx hl hnews h1 h63 hbytes hbase fun v' w' h2 h3 _ => h v' w' h2 h3

/-- where the reading stands: what is left, and the pairs so far -/
structure So (w : World) (b : List UInt8) (v : Value) (r : ByteArray) (m : List Pair) (wr : World) : Prop where
  own : wr.ownsRow w.heap.size 36 3 v m.length (cells m)
  bel : Below w.heap.size w wr
  left : parse b = (parse r.data.toList).map (m ++ ·)
  small : ∀ p ∈ m, p.key.size < 256 ∧ p.val.size < 256

set_option maxHeartbeats 4000000 in
set_option maxRecDepth 100000 in
theorem open_any (s : ByteArray) (w : World) (hs : s.size ≤ 1048576) :
    Calls Tryd.prog 21 #[.string s] w fun e w' => ∃ v, e = .returned (.tuple #[v, .bool (openT s.data.toList).isSome]) ∧ (∀ l, openT s.data.toList = some l → w'.ownsRow w.heap.size 36 3 v l.length (cells l)) ∧ Below w.heap.size w w' := by
  have hsl : s.data.toList.length = s.size := Array.length_toList
  obtain ⟨i0, hi, hz0, hz1, hz2⟩ := info_parts infoP
  have a26 := aggP
  have z26 := sizeP
  by_cases h8 : s.size < 8
  · have HV : Hid (openT s.data.toList = none) := if_pos (by omega)
    have i1 : (s.size : Int) < 8 := by omega
    rw [HV.out]
    go_enter Tryd.func21, Tryd.ntmps21
    go_wp2_with fail
    go_ret2
    exact ⟨_, rfl, fun l h => (by cases h), Below.refl _ _⟩
  have i1 : ¬ (s.size : Int) < 8 := by omega
  obtain ⟨B, hB⟩ : ∃ B : Nat, s.size = B + 8 := ⟨s.size - 8, by omega⟩
  have HO : Hid (openT s.data.toList = match parse (s.data.toList.take B) with | some l => if pairsE l = 0 ∧ table l = s.data.toList then some l else none | none => none) := by
    show _ = _
    unfold openT
    rw [if_neg (by omega), hsl, hB]
    rfl
  have i2 : (s.size : Int) - 8 = (B : Int) := by omega
  have i3 : (B : Int) ≤ (s.size : Int) := by omega
  have HE : Hid (s.extract 0 B = str (s.data.toList.take B)) := by show _ = _; rw [cut_list]; rfl
  generalize hb : s.data.toList.take B = b at HO HE
  have hbl : b.length = B := by rw [← hb, List.length_take]; omega
  clear hb
  go_enter Tryd.func21, Tryd.ntmps21
  go_upto_region 5 with fail
  rw [HE.out]
  clear HE
  have hq0 : (str b).size + 3 * ([] : List Pair).length ≤ B := by rw [Nums.str_size, hbl]; simp
  go_loopw [4, 5, 6, 7] (fun v r _ _ wr => ∃ (m : List Pair) (q : ByteArray), r = .string q ∧ Hid (So w b v q m wr) ∧ q.size + 3 * m.length ≤ B) (fun _ r _ _ _ => sizeS r)
  case atStart => exact ⟨[], str b, rfl, ⟨World.ownsRow_nil _ _ _ _, Below.refl _ _, by rw [Nums.str_data]; exact Tabs.parse_start b, fun p hp => (by cases hp)⟩, hq0⟩
  case round =>
    obtain ⟨m, q, rfl, HS, hq⟩ := hrel
    by_cases h0 : q.size = 0
    · have e0 := empty_yes h0
      have hP : parse b = some m := by
        have h := HS.out.left
        rw [show q.data.toList = [] from List.length_eq_zero_iff.1 (by rw [show q.data.toList.length = q.size from Array.length_toList]; exact h0)] at h
        exact Tabs.parse_end h
      rw [hP] at HO
      simp only at HO
      obtain ⟨a4, c4, rfl, hw4⟩ := Wides.owns_wide HS.out.own
      have cP := WalkTabRef.pairs_any m a4 m.length c4 wr hw4 (fun p hp => ⟨by have := (HS.out.small p hp).1; unfold maxLen; omega, by have := (HS.out.small p hp).2; unfold maxLen; omega⟩) (by omega)
      have HW4 : Hid (Wide 3 wr a4 m.length c4 (cells m)) := hw4
      clear hw4 hP
      by_cases hE : pairsE m = 0
      · rw [hE] at cP
        go_wp2_with fail
        refine cP.mono ?_
        rintro e w2 ⟨rfl, b2⟩
        have hw2 := HW4.out.below b2
        have cT := WalkTableRef.table_any m a4 m.length c4 w2 hw2 hE (by omega)
        have HOw : Hid (w2.ownsRow w.heap.size 36 3 (.slice a4 m.length c4) m.length (cells m)) := owns_kept HS.out.own (Kept.of_below (fun _ => False) b2) fun _ _ q => q
        have hb2 := HS.out.bel.trans (b2.mono HS.out.bel.size)
        clear cP hw2 HW4 HS
        go_wp2_with fail
        refine cT.mono ?_
        rintro e w3 ⟨rfl, b3⟩
        have HO3 : Hid (w3.ownsRow w.heap.size 36 3 (.slice a4 m.length c4) m.length (cells m)) := owns_kept HOw.out (Kept.of_below (fun _ => False) b3) fun _ _ q => q
        have HB3 : Hid (Below w.heap.size w w3) := hb2.trans (b3.mono hb2.size)
        clear cT HOw hb2 b2 b3
        by_cases hT : table m = s.data.toList
        · have HV : Hid (openT s.data.toList = some m) := by show _ = _; rw [HO.out, if_pos ⟨hE, hT⟩]
          have q1 := eq_yes (show str (table m) = s by rw [hT]; rfl)
          clear HO hT hE
          go_wp2_with fail
          go_ret2
          refine ⟨_, by rw [HV.out]; rfl, fun l h => ?_, HB3.out⟩
          rw [HV.out] at h
          obtain rfl : m = l := by simpa using h
          exact HO3.out
        · have HV : Hid (openT s.data.toList = none) := by show _ = _; rw [HO.out, if_neg (fun h => hT h.2)]
          have q1 := eq_no (show str (table m) ≠ s from fun h => hT (by rw [← h, Nums.str_data]))
          clear HO hT hE
          go_wp2_with fail
          go_ret2
          refine ⟨_, by rw [HV.out]; rfl, fun l h => ?_, HB3.out⟩
          rw [HV.out] at h
          cases h
      · have HV : Hid (openT s.data.toList = none) := by show _ = _; rw [HO.out, if_neg (fun h => hE h.1)]
        have q1 : (((pairsE m : Nat) : Int) != 0) = true := by rw [bne_iff_ne]; omega
        generalize pairsE m = G at cP q1
        clear HO hE
        go_wp2_with fail
        refine cP.mono ?_
        rintro e w2 ⟨rfl, b2⟩
        have HB2 : Hid (Below w.heap.size w w2) := HS.out.bel.trans (b2.mono HS.out.bel.size)
        clear cP b2 HS HW4
        go_wp2_with fail
        go_ret2
        refine ⟨_, by rw [HV.out]; rfl, fun l h => ?_, HB2.out⟩
        rw [HV.out] at h
        cases h
    · have e0 := empty_no h0
      have hne : q.data.toList ≠ [] := fun h => h0 (by rw [← show q.data.toList.length = q.size from Array.length_toList, h]; rfl)
      obtain ⟨a, t, hat⟩ : ∃ a t, q.data.toList = a :: t := List.exists_cons_of_ne_nil hne
      have z0 : ∀ h, q[0]'h = a := by
        intro h
        have h3 : q.data.toList[0]'(by rw [hat]; simp) = a := by simp only [hat, List.getElem_cons_zero]
        rw [← h3]
        rfl
      have la := a.toNat_lt
      have j0 : (0 : Int) < (q.size : Int) := by omega
      have hq1 : q.size ≤ 1048576 := by omega
      by_cases hS : q.size < 3 + a.toNat
      · have HV : Hid (openT s.data.toList = none) := by
          show _ = _
          rw [HO.out, Tabs.parse_stop HS.out.left hne (take1_short hat hS)]
        have i4 : (q.size : Int) < 3 + (a.toNat : Int) := by omega
        clear HO hne hat hS
        go_wp2_with fail
        go_ret2
        refine ⟨_, by rw [HV.out]; rfl, fun l h => ?_, HS.out.bel⟩
        rw [HV.out] at h
        cases h
      · have i4 : ¬ (q.size : Int) < 3 + (a.toNat : Int) := by omega
        obtain ⟨g, v, z1, z2, hT⟩ := take1_long hat hS (Nat.add_comm 1 a.toNat)
        have hT := hT _ rfl
        have lv := v.toNat_lt
        have lg := g.toNat_lt
        have i7 : 1 + (a.toNat : Int) < (q.size : Int) := by omega
        have i8 : 1 + (a.toNat : Int) + 1 < (q.size : Int) := by omega
        have HT : Hid (take1 q.data.toList = if g.toNat ≤ 1 ∧ 1 + a.toNat + 2 + v.toNat ≤ q.size then some (⟨q.extract 1 (1 + a.toNat), q.extract (1 + a.toNat + 2) (1 + a.toNat + 2 + v.toNat), decide (g.toNat = 1)⟩, (q.extract (1 + a.toNat + 2 + v.toNat) q.size).data.toList) else none) := hT
        clear hT hat hS
        by_cases hG : 1 < g.toNat
        · have HV : Hid (openT s.data.toList = none) := by
            show _ = _
            rw [HO.out, Tabs.parse_stop HS.out.left hne (by rw [HT.out, if_neg (by omega)])]
          have j1 : (1 : Int) < (g.toNat : Int) := by omega
          clear HO hne HT
          go_wp2_with fail
          go_ret2
          refine ⟨_, by rw [HV.out]; rfl, fun l h => ?_, HS.out.bel⟩
          rw [HV.out] at h
          cases h
        have j1 : ¬ (1 : Int) < (g.toNat : Int) := by omega
        by_cases hE : q.size < 1 + a.toNat + 2 + v.toNat
        · have HV : Hid (openT s.data.toList = none) := by
            show _ = _
            rw [HO.out, Tabs.parse_stop HS.out.left hne (by rw [HT.out, if_neg (by omega)])]
          have j2 : (q.size : Int) < 1 + (a.toNat : Int) + 2 + (v.toNat : Int) := by omega
          clear HO hne HT hE
          go_wp2_with fail
          go_ret2
          refine ⟨_, by rw [HV.out]; rfl, fun l h => ?_, HS.out.bel⟩
          rw [HV.out] at h
          cases h
        have j2 : ¬ (q.size : Int) < 1 + (a.toNat : Int) + 2 + (v.toNat : Int) := by omega
        have hT2 : take1 q.data.toList = some (⟨q.extract 1 (1 + a.toNat), q.extract (1 + a.toNat + 2) (1 + a.toNat + 2 + v.toNat), decide (g.toNat = 1)⟩, (q.extract (1 + a.toNat + 2 + v.toNat) q.size).data.toList) := by
          rw [HT.out, if_pos ⟨by omega, by omega⟩]
        have HT2 : Hid (take1 q.data.toList = some (⟨q.extract 1 (1 + a.toNat), q.extract (1 + a.toNat + 2) (1 + a.toNat + 2 + v.toNat), decide (g.toNat = 1)⟩, (q.extract (1 + a.toNat + 2 + v.toNat) q.size).data.toList)) := hT2
        clear hT2 HT hG hE hne
        go_upto_region 12 with fail
        obtain ⟨K, hK⟩ : ∃ K : Nat, K = 1 + a.toNat := ⟨_, rfl⟩
        obtain ⟨E, hE⟩ : ∃ E : Nat, E = K + 2 + v.toNat := ⟨_, rfl⟩
        have r1 : 1 + (a.toNat : Int) = (K : Int) := by omega
        have r2 : (K : Int) + 2 + (v.toNat : Int) = (E : Int) := by omega
        rw [r1, r2]
        have y1 : ∀ h, q[K]'h = g := by subst hK; exact z1
        have m0 : (1 : Int) ≤ (K : Int) := by omega
        have m1 : (K : Int) < (q.size : Int) := by omega
        obtain ⟨K2, hK2⟩ : ∃ K2 : Nat, K2 = K + 2 := ⟨_, rfl⟩
        have w1 : IntKind.i64.wrap (K2 : Int) = (K2 : Int) := by rw [IntKind.wrap_i64]; omega
        have w2 : (K : Int) + 2 = (K2 : Int) := by omega
        have m2 : (K2 : Int) ≤ (E : Int) := by omega
        have m7 : (0 : Int) ≤ (K2 : Int) := by omega
        have m8 : (K2 : Int) ≤ (q.size : Int) := by omega
        have m3 : (E : Int) ≤ (q.size : Int) := by omega
        have m4 : (K : Int) ≤ (q.size : Int) := by omega
        have m5 : m.length ≤ 1048576 := by omega
        have m6 : K + 2 ≤ E ∧ E ≤ q.size ∧ 1 ≤ K ∧ K < 300 ∧ E < 1048577 ∧ 3 ≤ E := by omega
        rw [← hK, ← hE, ← hK2] at HT2
        have HM : Hid (K + 2 ≤ E ∧ E ≤ q.size ∧ 1 ≤ K ∧ K < 300 ∧ E < 1048577 ∧ 3 ≤ E) := m6
        clear i7 i8 z1 z2 z0 hK hE hK2 r1 r2 j2 i4 m6 lv la
        have hq : ((g.toNat : Int) == 1) = decide (g.toNat = 1) := by
          by_cases h : g.toNat = 1
          · rw [decide_eq_true h, h]; rfl
          · rw [decide_eq_false h, beq_eq_false_iff_ne]; omega
        generalize decide (g.toNat = 1) = G at hq HT2
        generalize hx0 : q.extract 1 K = x0 at HT2
        generalize hx1 : q.extract K2 E = x1 at HT2
        go_region_law (refine step_append_own rfl (.tmp 48) (.tmp 62) 34 rfl w.heap.size 36 i0 (.agg #[.string ⟨#[]⟩, .string ⟨#[]⟩, .bool false]) 3 40 Tryd.underlying34 hi hz0 hz1 hz2 rfl (by decide) _ _ _ rfl (HS.out.own.drew.alloc _) ⟨wr.heap.size, 0, none⟩ 1 1 [.string x0, .string x1, .bool G] rfl rfl (cell_three_new _ _ _ _ _) (fun u hu => by simp at hu; rcases hu with rfl | rfl | rfl <;> rfl) (by unfold maxLen; omega) (by omega) (by have := HS.out.bel.size; simp; omega) ?_; intro v1 wn o1 g1)
        have hsh := Tabs.take1_shorter HT2.out
        obtain ⟨_, sm1, sm2⟩ := Tabs.take1_some HT2.out
        rw [show q.data.toList.length = q.size from Array.length_toList, show (q.extract E q.size).data.toList.length = (q.extract E q.size).size from Array.length_toList] at hsh
        have HN : Hid (So w b v1 (q.extract E q.size) (m ++ [⟨x0, x1, G⟩]) wn) := by
          refine ⟨?_, (HS.out.bel.drew.alloc HS.out.bel.size _).grown g1 (by have := HS.out.bel.size; simp; omega) (fun k hk => (HS.out.own.lt k hk).1), Tabs.parse_step HS.out.left HT2.out, ?_⟩
          · rw [cells_append, List.length_append]
            exact o1
          · intro p hp
            rcases List.mem_append.1 hp with hp | hp
            · exact HS.out.small p hp
            · rw [List.mem_singleton.1 hp]
              exact ⟨sm1, sm2⟩
        have hfin : (q.extract E q.size).size + 3 * (m ++ [(⟨x0, x1, G⟩ : Pair)]).length ≤ B := by
          rw [List.length_append, List.length_singleton]
          omega
        have hmes : (q.extract E q.size).size < q.size := by omega
        clear o1 g1 HS HT2 sm1 sm2 HM hx0 hx1 hq m0 m1 m2 m7 m8 w1 w2
        go_wp2_with fail
        go_roundw
        case rel => exact ⟨_, _, rfl, HN, hfin⟩
        case measure => simpa [sizeS] using hmes

end Go.Proofs.YtinjkmimaokffaeDoor.WalkOpenRef
