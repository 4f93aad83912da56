/-
  What the document's own answers (package witref1) return on many entries: EntryLeafs, Unpack.
-/
import Derived.Test.YtibmgmadoaencadDoorWalkEntriesRef
namespace Go.Proofs.YtibmgmadoaencadDoor.WalkUnpackRef
open Go.RowKit
open Lists (Row ints bt)
open Keeps (Kept owns_kept owns_row owns_base)
open Wides (Wide)
open Entries (Entry entE take1 takes made dec unpack entsE firstE leafsOf)
open EntRows (cells cells_append)
open Nums (str)
open WalkEntryRef (aggE sizeE)

theorem info3 : (Tryd.prog.info? 3).map (fun i => (i.zero, i.size, i.bytes)) = some (some (.int .i64 0), 1, 8) := by kernel_rfl
theorem infoE : (Tryd.prog.info? 33).map (fun i => (i.zero, i.size, i.bytes)) = some (some (.agg #[.int .i64 0, .string ⟨#[]⟩]), 2, 24) := by kernel_rfl

set_option maxHeartbeats 1000000 in
theorem leafs_any (l : List Entry) (a : Option Addr) (n cap : Nat) (w : World) (hr : Wide 2 w a n cap (cells l)) (h : entsE l = 0) :
    Calls Tryd.prog 16 #[.slice a n cap] w fun e w' => ∃ v, e = .returned v ∧ w'.ownsRow w.heap.size 3 1 v (leafsOf l).length (ints (leafsOf l)) ∧ Below w.heap.size w w' := by
  have hln := EntRows.len_of hr
  obtain ⟨hn, hv⟩ := Entries.ents_ok h
  obtain ⟨i0, hi, hz0, hz1, hz2⟩ := info_parts info3
  have HR : Hid (Wide 2 w a n cap (cells l)) := hr
  have HV : Hid (∀ e ∈ l, entE e = 0) := hv
  clear hr h hv
  have a23 := aggE
  have z23 := sizeE
  go_enter Tryd.func16, Tryd.ntmps16
  go_wp2_with fail
  go_loopw [3, 4] (fun v i wr => ∃ k : Nat, k ≤ n ∧ i = .int .i64 (k : Int) ∧ wr.ownsRow w.heap.size 3 1 v k (ints (leafsOf (l.take k))) ∧ Below w.heap.size w wr) (fun _ i _ => n - (intOf i).toNat)
  case atStart => exact ⟨0, Nat.zero_le _, rfl, World.ownsRow_nil _ _ _ _, Below.refl _ _⟩
  case round =>
    obtain ⟨k, hk, rfl, hown, hb⟩ := hrel
    have HO : Hid (wr.ownsRow w.heap.size 3 1 u3 k (ints (leafsOf (l.take k)))) := hown
    by_cases hlt : k < n
    · have i1 : (k : Int) < (n : Int) := by omega
      obtain ⟨b1, off1, rfl, _⟩ := (HR.out.below hb).2.2 (by omega)
      obtain ⟨p0, p1⟩ := EntRows.at_two (HR.out.below hb) k (by omega)
      have HT : Hid (l.take (k + 1) = l.take k ++ [l[k]'(by omega)]) := List.take_succ_eq_append_getElem (by omega)
      have HE : Hid (entE (l[k]'(by omega)) = 0) := HV.out _ (List.getElem_mem _)
      generalize l[k]'(by omega) = x at p0 p1 HT HE
      obtain ⟨t, d⟩ := x
      simp only at p0 p1
      have HB : Hid (Below w.heap.size w wr) := hb
      clear hb hown
      go_wp2_with fail
      refine (WalkEntryRef.bytes_any t d _ HE.out).mono ?_
      rintro e w2 ⟨rfl, b2⟩
      have hsz : (str (Entries.bytes (t, d))).size ≤ 140737488351232 := by
        rw [Nums.str_size, Entries.bytes_length]
        have := (Entries.ent_ok HE.out).2.2
        simp only at this ⊢
        omega
      have HX : Hid (leafsOf (l.take (k + 1)) = leafsOf (l.take k) ++ [Sums.sum (0 :: (str (Entries.bytes (t, d))).data.toList)]) := by
        show _ = _
        rw [HT.out]
        simp [leafsOf, Nums.str_data]
      generalize str (Entries.bytes (t, d)) = q at hsz HX
      go_wp2_with fail
      refine (WalkRef.leaf_any q _ hsz).mono ?_
      rintro e w3 ⟨rfl, b3⟩
      have HO3 : Hid (w3.ownsRow w.heap.size 3 1 u3 k (ints (leafsOf (l.take k)))) := owns_kept HO.out (Kept.of_below (fun _ => False) (bt b2 b3)) fun _ _ q => q
      have HB3 : Hid (Below w.heap.size w w3) := bt HB.out (bt b2 b3)
      generalize Sums.sum (0 :: q.data.toList) = X at HX
      clear b2 b3 HO HB hsz
      go_wp2_with (at_builtin; go_must (refine wpList_append_own _ rfl (.tmp 18) (.tmp 20) 45 rfl w.heap.size 3 i0 (.int .i64 0) 1 8 Tryd.underlying45 hi hz0 hz1 hz2 rfl (by decide) _ _ _ rfl (HO3.out.alloc _) ⟨_, 0, none⟩ 1 1 [.int .i64 X] rfl rfl (cell_one_new _ _ _) (fun u hu => by rw [List.mem_singleton.1 hu]; rfl) (by unfold maxLen; omega) (by omega) (by have := HB3.out.size; simp; omega) ?_); intro v1 wn o1 g1 z1; clear z1)
      have HBN : Hid (Below w.heap.size w wn) := (HB3.out.alloc HB3.out.size _).grown g1 (by have := HB3.out.size; simp; omega) (fun k hk => (HO3.out.lt k hk).1)
      have HON : Hid (wn.ownsRow w.heap.size 3 1 v1 (k + 1) (ints (leafsOf (l.take (k + 1))))) := by
        rw [HX.out, show ints (leafsOf (l.take k) ++ [X]) = ints (leafsOf (l.take k)) ++ [.int .i64 X] by simp [ints]]
        exact o1
      clear g1 o1 HO3 HB3
      go_roundw
      case rel => exact ⟨k + 1, by omega, by go_num, HON.out, HBN.out⟩
      case measure => simp [intOf]; omega
    · have i1 : ¬ (k : Int) < (n : Int) := by omega
      obtain rfl : k = n := by omega
      have HF : Hid (wr.ownsRow w.heap.size 3 1 u3 (leafsOf l).length (ints (leafsOf l))) := by
        have h := HO.out
        rw [List.take_of_length_le (by omega)] at h
        rw [show (leafsOf l).length = k by simp [leafsOf, hln]]
        exact h
      go_wp2_with fail
      go_ret
      exact ⟨_, rfl, HF.out, hb⟩

theorem cell_two_new (w : World) (x y : Value) (t : TypeId) : ∀ j u, [x, y][j]? = some u → (w.alloc (.cells #[x, y] t)).cell? ((⟨w.heap.size, 0, none⟩ : Addr).add j) = some u := by
  intro j u hj
  match j, hj with
  | 0, hj => simp at hj; subst hj; simp [Addr.add]
  | 1, hj => simp at hj; subst hj; simp [Addr.add]
theorem cut_one (n : UInt8) (r : List UInt8) (m : Nat) (h : m = r.length + 1) : (str (n :: r)).extract 1 m = str r := by
  subst h
  apply ByteArray.ext
  apply Array.toList_inj.1
  simp [str]

/-- what bytes read as, and that there is nothing wrong with them -/
def Told (w : World) (l : List UInt8) (e : Ending) (w' : World) : Prop :=
  (∀ m, unpack l = some m → ∃ v, e = .returned (.tuple #[v, .bool true]) ∧ w'.ownsRow w.heap.size 33 2 v m.length (cells m)) ∧ (unpack l = none → ∃ a n c, e = .returned (.tuple #[.slice a n c, .bool false])) ∧ Below w.heap.size w w'
theorem Told.no {w : World} {l : List UInt8} {a : Option Addr} {n c : Nat} {w' : World} (h : unpack l = none) (b : Below w.heap.size w w') : Told w l (.returned (.tuple #[.slice a n c, .bool false])) w' :=
  ⟨fun m hm => (by rw [h] at hm; cases hm), fun _ => ⟨a, n, c, rfl⟩, b⟩

set_option maxHeartbeats 4000000 in
set_option maxRecDepth 100000 in
theorem unpack_any (s : ByteArray) (w : World) (hs : s.size ≤ 140737488351232) :
    Calls Tryd.prog 20 #[.string s] w fun e w' => Told w s.data.toList e w' := by
  obtain ⟨i0, hi, hz0, hz1, hz2⟩ := info_parts infoE
  have a23 := aggE
  have z23 := sizeE
  cases hl : s.data.toList with
  | nil =>
    have HU : Hid (unpack ([] : List UInt8) = none) := rfl
    have he : (s.toList == []) = true := by rw [ByteArray.toList_eq, hl]; rfl
    clear hl
    go_enter Tryd.func20, Tryd.ntmps20
    go_wp2_with fail
    go_ret2
    exact Told.no HU.out (Below.refl _ _)
  | cons n r =>
    have he : (s.toList == []) = false := by rw [ByteArray.toList_eq, hl]; rfl
    have hst : s = str (n :: r) := by rw [← hl]; rfl
    have hsz : s.size = r.length + 1 := by rw [hst, Nums.str_size]; simp
    have y0 : ∀ h, s[0]'h = n := by subst hst; intro h; rfl
    have HX : Hid (s.extract 1 s.size = str r) := by
      show _ = _
      rw [hst]
      exact cut_one n r _ (by rw [Nums.str_size]; simp)
    have ln := n.toNat_lt
    have j0 : (0 : Int) < (s.size : Int) := by omega
    have HC := Entries.unpack_cons n r
    have j1 : (1 : Int) ≤ (s.size : Int) := by omega
    clear hl hst
    by_cases hn : 200 < n.toNat
    · have i1 : (200 : Int) < (n.toNat : Int) := by omega
      have HU : Hid (unpack (n :: r) = none) := by show _ = _; rw [HC, if_pos hn]
      clear HC hn
      go_enter Tryd.func20, Tryd.ntmps20
      go_wp2_with fail
      go_ret2
      exact Told.no HU.out (Below.refl _ _)
    · have i1 : ¬ (200 : Int) < (n.toNat : Int) := by omega
      rw [if_neg hn] at HC
      have HU : Hid (unpack (n :: r) = Entries.whole (takes n.toNat r)) := HC
      clear HC
      have HSm : Hid (s.size = r.length + 1) := hsz
      clear hsz
      go_enter Tryd.func20, Tryd.ntmps20
      go_wp2_with fail
      rw [HX.out]
      go_loopw [4, 5, 6] (fun v q i wr => ∃ (k : Nat) (m : List Entry) (t : List UInt8), k ≤ n.toNat ∧ i = .int .i64 (k : Int) ∧ q = .string (str t) ∧ Hid (takes k r = some (m, t)) ∧ wr.ownsRow w.heap.size 33 2 v k (cells m) ∧ Below w.heap.size w wr) (fun _ _ i _ => n.toNat - (intOf i).toNat)
      case atStart => exact ⟨0, [], r, Nat.zero_le _, rfl, rfl, rfl, World.ownsRow_nil _ _ _ _, Below.refl _ _⟩
      case round =>
        obtain ⟨k, m, t, hk, rfl, rfl, HT, hown, hb⟩ := hrel
        have HO : Hid (wr.ownsRow w.heap.size 33 2 u4 k (cells m)) := hown
        have HB : Hid (Below w.heap.size w wr) := hb
        clear hown hb
        have htl : t.length ≤ r.length := by
          have h := (Entries.takes_some HT.out).1
          have h2 := congrArg List.length h
          rw [List.length_append] at h2
          omega
        by_cases hlt : k < n.toNat
        · have i2 : (k : Int) < (n.toNat : Int) := by omega
          have hst : (str t).size ≤ 140737488351232 := by rw [Nums.str_size]; have := HSm.out; omega
          go_wp2_with fail
          cases hT : take1 t with
          | none =>
            refine (WalkEntriesRef.take_no (str t) _ hst hT).mono ?_
            rintro e w2 ⟨t', d', q', rfl, b2⟩
            have HN : Hid (unpack (n :: r) = none) := by
              show _ = _
              have h1 := Entries.takes_end HT.out hT
              have h2 := Entries.takes_none h1 (n.toNat - (k + 1))
              rw [show k + 1 + (n.toNat - (k + 1)) = n.toNat by omega] at h2
              rw [HU.out, h2]
              rfl
            have HB2 : Hid (Below w.heap.size w w2) := bt HB.out b2
            clear hT b2
            go_wp2_with fail
            go_ret2
            exact Told.no HN.out (HB2.out.alloc HB2.out.size _)
          | some y =>
            obtain ⟨⟨tt, d⟩, t2⟩ := y
            refine (WalkEntriesRef.take_yes (str t) _ hst _ _ hT).mono ?_
            rintro e w2 ⟨rfl, b2⟩
            simp only
            have HT2 : Hid (takes (k + 1) r = some (m ++ [(tt, d)], t2)) := Entries.takes_snoc HT.out hT
            have HO2 : Hid (w2.ownsRow w.heap.size 33 2 u4 k (cells m)) := owns_kept HO.out (Kept.of_below (fun _ => False) b2) fun _ _ q => q
            have HB2 : Hid (Below w.heap.size w w2) := bt HB.out b2
            clear hT b2 HO HB hst
            generalize hq2 : str t2 = q2
            have HQ : Hid (str t2 = q2) := hq2
            clear hq2
            go_upto_region 11 with fail
            have n0 : (w2.alloc (.cells #[.int .i64 tt, .string d] 33)).cell? ⟨w2.heap.size, 0, none⟩ = some (.int .i64 tt) := by simp
            have n1 : (w2.alloc (.cells #[.int .i64 tt, .string d] 33)).cell? ⟨w2.heap.size, 1, none⟩ = some (.string d) := by simp
            have HO3 : Hid ((w2.alloc (.cells #[.int .i64 tt, .string d] 33)).ownsRow w.heap.size 33 2 u4 k (cells m)) := HO2.out.alloc _
            have HB3 : Hid (Below w.heap.size w (w2.alloc (.cells #[.int .i64 tt, .string d] 33))) := HB2.out.alloc HB2.out.size _
            generalize w2.alloc (.cells #[.int .i64 tt, .string d] 33) = w3 at n0 n1 HO3 HB3 ⊢
            clear HO2 HB2
            go_wp2_with (at_builtin; go_must (refine wpList_append_own _ rfl (.tmp 35) (.tmp 37) 34 rfl w.heap.size 33 i0 (.agg #[.int .i64 0, .string ⟨#[]⟩]) 2 24 Tryd.underlying34 hi hz0 hz1 hz2 rfl (by decide) _ _ _ rfl (HO3.out.alloc _) ⟨_, 0, none⟩ 1 1 [.int .i64 tt, .string d] rfl rfl (cell_two_new _ _ _ _) (fun u hu => by simp at hu; rcases hu with rfl | rfl <;> rfl) (by unfold maxLen; omega) (by omega) (by have := HB3.out.size; simp; omega) ?_); intro v1 wn o1 g1 z1; clear z1)
            have HBN : Hid (Below w.heap.size w wn) := (HB3.out.alloc HB3.out.size _).grown g1 (by have := HB3.out.size; simp; omega) (fun k hk => (HO3.out.lt k hk).1)
            have HON : Hid (wn.ownsRow w.heap.size 33 2 v1 (k + 1) (cells (m ++ [(tt, d)]))) := by
              rw [cells_append]
              exact o1
            clear g1 o1 HO3 HB3
            go_roundw
            case rel => exact ⟨k + 1, m ++ [(tt, d)], t2, by omega, by go_num, by rw [HQ.out], HT2, HON.out, HBN.out⟩
            case measure => simp [intOf]; omega
        · have i2 : ¬ (k : Int) < (n.toNat : Int) := by omega
          obtain rfl : k = n.toNat := by omega
          have hml := (Entries.takes_some HT.out).2.1
          by_cases ht : t = []
          · subst ht
            have HN : Hid (unpack (n :: r) = some m) := by
              show _ = _
              rw [HU.out, HT.out]
              rfl
            have hne : ((str []).toList == []) = true := by rw [Nums.str_toList]; rfl
            have HF : Hid (wr.ownsRow w.heap.size 33 2 u4 m.length (cells m)) := by rw [hml]; exact HO.out
            generalize str [] = q at hne
            go_wp2_with fail
            go_ret2
            refine ⟨fun m' hm' => ?_, fun h => (by rw [HN.out] at h; cases h), HB.out⟩
            rw [HN.out] at hm'
            obtain rfl : m = m' := Option.some.inj hm'
            exact ⟨_, rfl, HF.out⟩
          · have HN : Hid (unpack (n :: r) = none) := by
              show _ = _
              rw [HU.out, HT.out]
              cases t with
              | nil => exact absurd rfl ht
              | cons x y => rfl
            have hne : ((str t).toList == []) = false := by rw [Nums.str_toList, beq_eq_false_iff_ne]; exact ht
            obtain ⟨a4, c4, rfl, _⟩ := Wides.owns_wide HO.out
            generalize str t = q at hne
            go_wp2_with fail
            go_ret2
            exact Told.no HN.out HB.out

end Go.Proofs.YtibmgmadoaencadDoor.WalkUnpackRef
