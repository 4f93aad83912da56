/-
  What the document's own answers (package witref1) return on tiles: power, Tiles, TileSums.
-/
import Derived.Test.YtigbbhojgajkjaiGreatDoorWalkTreeRef
import Derived.Test.YtigbbhojgajkjaiGreatDoorTilePlain
import Derived.Deep.DeepMust
import Derived.Deep.CutBlock
namespace Go.Proofs.YtigbbhojgajkjaiGreatDoor.WalkTileRef
open Go.RowKit
open Lists (Row ints bt)
open Keeps (Kept owns_kept owns_row owns_base)
open Wides (Wide)
open Tiles (Tile row upto tiles)
open TileRows (cells cells_append)

theorem power_any (L D : Nat) (w : World) (h : L ≤ 3) (hD : D = 4 ^ L) :
    Calls Tryz.prog 39 #[.int .i64 (L : Int)] w fun e w' => e = .returned (.int .i64 (D : Int)) ∧ w' = w := by
  have HD : Hid (D = 4 ^ L) := hD
  clear hD
  go_enter Tryz.func39, Tryz.ntmps39
  go_wp2_with fail
  go_loop [3, 4] (fun n i => ∃ k d : Nat, k ≤ L ∧ i = .int .i64 (k : Int) ∧ n = .int .i64 (d : Int) ∧ Hid (d = 4 ^ k) ∧ d ≤ 64) (fun _ i => L - (intOf i).toNat)
  case atStart => exact ⟨0, 1, Nat.zero_le _, rfl, rfl, rfl, by omega⟩
  case round =>
    obtain ⟨k, d, hk, rfl, rfl, HE, hd⟩ := hrel
    by_cases hlt : k < L
    · have i1 : (k : Int) < (L : Int) := by omega
      have hd2 : d ≤ 16 := by
        rw [HE.out]
        have : k ≤ 2 := by omega
        exact Nat.le_trans (Nat.pow_le_pow_right (by omega) this) (by decide)
      go_wp2_with fail
      go_round
      case rel => exact ⟨k + 1, d * 4, by omega, by go_num, by go_num, by show _ = _; rw [HE.out, Nat.pow_succ], by omega⟩
      case measure => simp [intOf]; omega
    · have i1 : ¬ (k : Int) < (L : Int) := by omega
      obtain rfl : k = L := by omega
      go_wp2_with fail
      go_ret
      exact ⟨by rw [show D = d from HD.out.trans HE.out.symm]; rfl, rfl⟩

theorem div_cast (n d : Nat) : ((n / d : Nat) : Int) = (n : Int) / (d : Int) := by first | exact Int.natCast_ediv n d | rfl
theorem wrap_small (m : Nat) (h : m ≤ 200) : wrap64 (m : Int) = (m : Int) := by
  simp only [wrap64]
  omega

theorem infoT : (Tryz.prog.info? 39).map (fun i => (i.zero, i.size, i.bytes)) = some (some (.agg #[.int .i64 0, .int .i64 0, .int .i64 0]), 3, 24) := by kernel_rfl

theorem cell_three_new (w : World) (x y z : Value) (t : TypeId) : ∀ j u, [x, y, z][j]? = some u → (w.alloc (.cells #[x, y, z] t)).cell? ((⟨w.heap.size, 0, none⟩ : Addr).add j) = some u := by
  intro j u hj
  match j, hj with
  | 0, hj => simp at hj; subst hj; simp [Addr.add]
  | 1, hj => simp at hj; subst hj; simp [Addr.add]
  | 2, hj => simp at hj; subst hj; simp [Addr.add]

set_option maxHeartbeats 4000000 in
set_option maxRecDepth 100000 in
theorem tiles_any (n : Nat) (w : World) (hn : n ≤ 200) :
    Calls Tryz.prog 11 #[.int .i64 (n : Int)] w fun e w' => ∃ v, e = .returned v ∧ w'.ownsRow w.heap.size 39 3 v (tiles n).length (cells (tiles n)) ∧ Below w.heap.size w w' := by
  obtain ⟨i0, hi, hz0, hz1, hz2⟩ := info_parts infoT
  go_enter Tryz.func11, Tryz.ntmps11
  go_wp2_with fail
  go_loopw [3, 4] (fun v c wr => ∃ L : Nat, L ≤ 4 ∧ c = .int .i64 (L : Int) ∧ wr.ownsRow w.heap.size 39 3 v (upto n L).length (cells (upto n L)) ∧ Below w.heap.size w wr) (fun _ c _ => 4 - (intOf c).toNat)
  case atStart => exact ⟨0, by omega, rfl, World.ownsRow_nil _ _ _ _, Below.refl _ _⟩
  case round =>
    obtain ⟨L, hL, rfl, hown, hb⟩ := hrel
    have HO : Hid (wr.ownsRow w.heap.size 39 3 u3 (upto n L).length (cells (upto n L))) := hown
    have HB : Hid (Below w.heap.size w wr) := hb
    have hul := Tiles.upto_length n L hL hn
    clear hown hb
    by_cases hlt : L < 4
    · have i1 : (L : Int) < 4 := by omega
      have hp := Tiles.pow_four L hlt
      have HD : Hid (upto n (L + 1) = upto n L ++ row L (n / 4 ^ L)) := rfl
      have hm : n / 4 ^ L ≤ 200 := Nat.le_trans (Nat.div_le_self _ _) hn
      go_wp2_with fail
      generalize hd : 4 ^ L = D at hp hm HD
      have d0 : ((D : Int) == 0) = false := by rw [beq_eq_false_iff_ne]; omega
      refine (power_any L D _ (by omega) hd.symm).mono ?_
      rintro e w1 ⟨rfl, rfl⟩
      have q : wrap64 ((n : Int) / (D : Int)) = ((n / D : Nat) : Int) := by
        rw [← div_cast n D]
        exact wrap_small _ hm
      go_wp2_with fail
      rw [q]
      generalize n / D = M at hm HD
      clear q hp hd d0
      go_loopw [3, 5, 6] (fun v r i wr => ∃ k : Nat, k ≤ (M + 3) / 4 ∧ i = .int .i64 (k : Int) ∧ r = .int .i64 ((M - 4 * k : Nat) : Int) ∧ wr.ownsRow w.heap.size 39 3 v (upto n L ++ (row L M).take k).length (cells (upto n L ++ (row L M).take k)) ∧ Below w.heap.size w wr) (fun _ r _ _ => (intOf r).toNat)
      case atStart => exact ⟨0, by omega, rfl, rfl, by simpa using HO.out, HB.out⟩
      case round =>
        obtain ⟨k, hk, rfl, rfl, hown, hb⟩ := hrel
        have HO2 : Hid (wr.ownsRow w.heap.size 39 3 u3 (upto n L ++ (row L M).take k).length (cells (upto n L ++ (row L M).take k))) := hown
        have HB2 : Hid (Below w.heap.size w wr) := hb
        have hl2 : (upto n L ++ (row L M).take k).length ≤ 300 := by
          rw [List.length_append, List.length_take, Tiles.row_length]
          omega
        clear hown hb HO HB
        by_cases h0 : 4 * k < M
        · have hk2 := h0
          have i3 : ((M - 4 * k : Nat) : Int) > 0 := by omega
          by_cases h4 : M - 4 * k < 4
          · have i4 : ((M - 4 * k : Nat) : Int) < 4 := by omega
            have HT : Hid ((row L M).take (k + 1) = (row L M).take k ++ [(L, k, M - 4 * k)]) := by
              have h := Tiles.row_take L M k hk2
              rw [show min 4 (M - 4 * k) = M - 4 * k by omega] at h
              exact h
            go_wp2_with (at_builtin; go_must (refine wpList_append_own _ rfl (.tmp 23) (.tmp 28) 35 rfl w.heap.size 39 i0 (.agg #[.int .i64 0, .int .i64 0, .int .i64 0]) 3 24 Tryz.underlying35 hi hz0 hz1 hz2 rfl (by decide) _ _ _ rfl (HO2.out.alloc _) ⟨_, 0, none⟩ 1 1 [.int .i64 (L : Int), .int .i64 (k : Int), .int .i64 (((M - 4 * k : Nat) : Int))] rfl rfl (cell_three_new _ _ _ _ _) (fun u hu => by simp at hu; rcases hu with rfl | rfl | rfl <;> rfl) (by unfold maxLen; omega) (by omega) (by have := HB2.out.size; simp; omega) ?_); intro v1 wn o1 g1 z1; clear z1)
            have HBN : Hid (Below w.heap.size w wn) := (HB2.out.alloc HB2.out.size _).grown g1 (by have := HB2.out.size; simp; omega) (fun k hk => (HO2.out.lt k hk).1)
            have HON : Hid (wn.ownsRow w.heap.size 39 3 v1 (upto n L ++ (row L M).take (k + 1)).length (cells (upto n L ++ (row L M).take (k + 1)))) := by
              rw [HT.out, ← List.append_assoc, cells_append]
              rw [show (upto n L ++ List.take k (row L M) ++ [((L, k, M - 4 * k) : Tile)] : List Tile).length = (upto n L ++ List.take k (row L M)).length + 1 by simp; omega]
              exact o1
            clear g1 o1 HO2 HB2
            go_round
            case rel => exact ⟨k + 1, by omega, by go_num, by go_num, HON.out, HBN.out⟩
            case measure => simp [intOf]; omega
          · have i4 : ¬ ((M - 4 * k : Nat) : Int) < 4 := by omega
            have HT : Hid ((row L M).take (k + 1) = (row L M).take k ++ [(L, k, 4)]) := by
              have h := Tiles.row_take L M k hk2
              rw [show min 4 (M - 4 * k) = 4 by omega] at h
              exact h
            go_wp2_with (at_builtin; go_must (refine wpList_append_own _ rfl (.tmp 23) (.tmp 28) 35 rfl w.heap.size 39 i0 (.agg #[.int .i64 0, .int .i64 0, .int .i64 0]) 3 24 Tryz.underlying35 hi hz0 hz1 hz2 rfl (by decide) _ _ _ rfl (HO2.out.alloc _) ⟨_, 0, none⟩ 1 1 [.int .i64 (L : Int), .int .i64 (k : Int), .int .i64 (4)] rfl rfl (cell_three_new _ _ _ _ _) (fun u hu => by simp at hu; rcases hu with rfl | rfl | rfl <;> rfl) (by unfold maxLen; omega) (by omega) (by have := HB2.out.size; simp; omega) ?_); intro v1 wn o1 g1 z1; clear z1)
            have HBN : Hid (Below w.heap.size w wn) := (HB2.out.alloc HB2.out.size _).grown g1 (by have := HB2.out.size; simp; omega) (fun k hk => (HO2.out.lt k hk).1)
            have HON : Hid (wn.ownsRow w.heap.size 39 3 v1 (upto n L ++ (row L M).take (k + 1)).length (cells (upto n L ++ (row L M).take (k + 1)))) := by
              rw [HT.out, ← List.append_assoc, cells_append]
              rw [show (upto n L ++ List.take k (row L M) ++ [((L, k, 4) : Tile)] : List Tile).length = (upto n L ++ List.take k (row L M)).length + 1 by simp; omega]
              exact o1
            clear g1 o1 HO2 HB2
            go_round
            case rel => exact ⟨k + 1, by omega, by go_num, by go_num, HON.out, HBN.out⟩
            case measure => simp [intOf]; omega
        · have i3 : ¬ ((M - 4 * k : Nat) : Int) > 0 := by omega
          have HF : Hid (wr.ownsRow w.heap.size 39 3 u3 (upto n (L + 1)).length (cells (upto n (L + 1)))) := by
            have h := HO2.out
            rw [Tiles.row_all L M k (by omega), ← HD.out] at h
            exact h
          clear HO2
          go_wp2_with fail
          go_round
          case rel => exact ⟨L + 1, by omega, by go_num, HF.out, HB2.out⟩
          case measure => simp [intOf]; omega
    · have i1 : ¬ (L : Int) < 4 := by omega
      obtain rfl : L = 4 := by omega
      go_wp2_with fail
      go_ret
      exact ⟨_, rfl, HO.out, HB.out⟩

theorem info3 : (Tryz.prog.info? 3).map (fun i => (i.zero, i.size, i.bytes)) = some (some (.int .i64 0), 1, 8) := by kernel_rfl

set_option maxHeartbeats 4000000 in
set_option maxRecDepth 100000 in
theorem sums_any (l : List Int) (a : Option Addr) (n cap : Nat) (A B C : Nat) (w : World) (hn : n ≤ 200) (hr : Row w a n cap (ints l)) (hv : ∀ x ∈ l, Nums.valid x = true) (hA : A < 4) (hB : B ≤ 50) (hC : C ≤ 4) (ht : Tiles.there n (A, B, C) = true) :
    Calls Tryz.prog 12 #[.slice a n cap, .agg #[.int .i64 (A : Int), .int .i64 (B : Int), .int .i64 (C : Int)]] w fun e w' => ∃ v, e = .returned v ∧ w'.ownsRow w.heap.size 3 1 v (Tiles.sumsOf l (A, B, C)).length (ints (Tiles.sumsOf l (A, B, C))) ∧ Below w.heap.size w w' := by
  have hln : l.length = n := by rw [← hr.1, Lists.ints_length]
  obtain ⟨i0, hi, hz0, hz1, hz2⟩ := info_parts info3
  have hp := Tiles.pow_four A hA
  have HN : Hid (∀ k, k < C → (4 * B + k) * 4 ^ A + 4 ^ A ≤ n) := fun k hk => Tiles.there_in ht hk
  have b0 : Below w.heap.size w (w.alloc (.cells #[.int .i64 (A : Int), .int .i64 (B : Int), .int .i64 (C : Int)] 39)) := (Below.refl _ _).alloc (Nat.le_refl _) _
  have HB0 : Hid (Below w.heap.size w (w.alloc (.cells #[.int .i64 (A : Int), .int .i64 (B : Int), .int .i64 (C : Int)] 39))) := b0
  have HR : Hid (Row (w.alloc (.cells #[.int .i64 (A : Int), .int .i64 (B : Int), .int .i64 (C : Int)] 39)) a n cap (ints l)) := hr.below b0
  have c0 : (w.alloc (.cells #[.int .i64 (A : Int), .int .i64 (B : Int), .int .i64 (C : Int)] 39)).cell? ⟨w.heap.size, 0, none⟩ = some (.int .i64 (A : Int)) := by simp
  have c1 : (w.alloc (.cells #[.int .i64 (A : Int), .int .i64 (B : Int), .int .i64 (C : Int)] 39)).cell? ⟨w.heap.size, 1, none⟩ = some (.int .i64 (B : Int)) := by simp
  have c2 : (w.alloc (.cells #[.int .i64 (A : Int), .int .i64 (B : Int), .int .i64 (C : Int)] 39)).cell? ⟨w.heap.size, 2, none⟩ = some (.int .i64 (C : Int)) := by simp
  have HV : Hid (∀ x ∈ l, Nums.valid x = true) := hv
  clear hr hv b0 ht
  go_enter Tryz.func12, Tryz.ntmps12
  go_wp2_with fail
  generalize w.alloc (.cells #[.int .i64 (A : Int), .int .i64 (B : Int), .int .i64 (C : Int)] 39) = w0 at HB0 HR c0 c1 c2 ⊢
  generalize hd : 4 ^ A = D at hp HN
  refine (power_any A D _ (by omega) hd.symm).mono ?_
  rintro e w1 ⟨rfl, rfl⟩
  go_wp2_with fail
  go_loopw [5, 7] (fun v i wr => ∃ k : Nat, k ≤ C ∧ i = .int .i64 (k : Int) ∧ wr.ownsRow w1.heap.size 3 1 v ((Tiles.sumsOf l (A, B, C)).take k).length (ints ((Tiles.sumsOf l (A, B, C)).take k)) ∧ Below w1.heap.size w1 wr) (fun _ i _ => C - (intOf i).toNat)
  case atStart => exact ⟨0, by omega, rfl, World.ownsRow_nil _ _ _ _, Below.refl _ _⟩
  case round =>
    obtain ⟨k, hk, rfl, hown, hb⟩ := hrel
    have k1 := Lists.cell_below hb c1
    have k2 := Lists.cell_below hb c2
    have HO : Hid (wr.ownsRow w1.heap.size 3 1 u5 ((Tiles.sumsOf l (A, B, C)).take k).length (ints ((Tiles.sumsOf l (A, B, C)).take k))) := hown
    have HB : Hid (Below w1.heap.size w1 wr) := hb
    have hl2 : ((Tiles.sumsOf l (A, B, C)).take k).length ≤ 4 := by rw [List.length_take, Tiles.sumsOf_length]; omega
    clear hown hb
    by_cases h0 : k < C
    · have i3 : (k : Int) < (C : Int) := by omega
      have hF := HN.out k h0
      have HX : Hid (Tiles.sumAt l A (4 * B + k) = Climbs.rootAt l ((4 * B + k) * D, (4 * B + k) * D + D)) := by show _ = _; rw [Tiles.sumAt, hd]
      have q : wrap64 ((4 * (B : Int) + (k : Int)) * (D : Int)) = (((4 * B + k) * D : Nat) : Int) := by
        have e : (((4 * B + k) * D : Nat) : Int) = (4 * (B : Int) + (k : Int)) * (D : Int) := by push_cast; rfl
        rw [← e]
        exact wrap_small _ (by omega)
      go_upto_region 7 with fail
      rw [q]
      generalize (4 * B + k) * D = F at hF HX
      clear q
      have d1 : 1 ≤ D := by omega
      have hcap := HR.out.2.1
      have hrow : Row wr (if cap = F then a else a.map (·.add F)) (F + D - F) (cap - F) (ints ((l.take (F + D)).drop F)) := by
        rw [Lists.ints_drop, Lists.ints_take]
        exact (HR.out.below HB.out).cut F (F + D) (by omega) hF
      rw [if_neg (by omega), show F + D - F = D by omega] at hrow
      have cR := WalkTreeRef.root_le _ _ D _ wr (by omega) hrow (fun x hx => HV.out x (List.mem_of_mem_take (List.mem_of_mem_drop hx)))
      have e1 : (F + D - F : Nat) = D := by omega
      have i5 : (F : Int) ≤ (F : Int) + (D : Int) := by omega
      have i6 : (F : Int) + (D : Int) ≤ (cap : Int) := by omega
      have HS : Hid ((Tiles.sumsOf l (A, B, C)).take (k + 1) = (Tiles.sumsOf l (A, B, C)).take k ++ [Trees.root ((l.take (F + D)).drop F)]) := by
        have h := Tiles.sumsOf_take l (A, B, C) k h0
        rw [show Tiles.sumAt l (A, B, C).1 (4 * (A, B, C).2.1 + k) = Trees.root ((l.take (F + D)).drop F) from HX.out] at h
        exact h
      generalize Trees.root ((l.take (F + D)).drop F) = X at cR HS
      clear hrow HX hp hd
      go_wp2_with fail
      refine cR.mono ?_
      rintro e w2 ⟨rfl, b2⟩
      have HO2 : Hid (w2.ownsRow w1.heap.size 3 1 u5 ((Tiles.sumsOf l (A, B, C)).take k).length (ints ((Tiles.sumsOf l (A, B, C)).take k))) := owns_kept HO.out (Kept.of_below (fun _ => False) b2) fun _ _ q => q
      have HB2 : Hid (Below w1.heap.size w1 w2) := bt HB.out b2
      clear cR b2 HO HB
      go_wp2_with (at_builtin; go_must (refine wpList_append_own _ rfl (.tmp 33) (.tmp 35) 28 rfl w1.heap.size 3 i0 (.int .i64 0) 1 8 Tryz.underlying28 hi hz0 hz1 hz2 rfl (by decide) _ _ _ rfl (HO2.out.alloc _) ⟨_, 0, none⟩ 1 1 [.int .i64 X] rfl rfl (cell_one_new _ _ _) (fun u hu => by rw [List.mem_singleton.1 hu]; rfl) (by unfold maxLen; omega) (by omega) (by have := HB2.out.size; simp; omega) ?_); intro v1 wn o1 g1 z1; clear z1)
      have HBN : Hid (Below w1.heap.size w1 wn) := (HB2.out.alloc HB2.out.size _).grown g1 (by have := HB2.out.size; simp; omega) (fun k hk => (HO2.out.lt k hk).1)
      have HON : Hid (wn.ownsRow w1.heap.size 3 1 v1 ((Tiles.sumsOf l (A, B, C)).take (k + 1)).length (ints ((Tiles.sumsOf l (A, B, C)).take (k + 1)))) := by
        rw [HS.out, List.length_append, show ints ((Tiles.sumsOf l (A, B, C)).take k ++ [X]) = ints ((Tiles.sumsOf l (A, B, C)).take k) ++ [.int .i64 X] by simp [ints]]
        exact o1
      clear g1 o1 HO2 HB2
      go_round
      case rel => exact ⟨k + 1, by omega, by go_num, HON.out, HBN.out⟩
      case measure => simp [intOf]; omega
    · have i3 : ¬ (k : Int) < (C : Int) := by omega
      have HF : Hid (wr.ownsRow w1.heap.size 3 1 u5 (Tiles.sumsOf l (A, B, C)).length (ints (Tiles.sumsOf l (A, B, C)))) := by
        have h := HO.out
        rw [List.take_of_length_le (by rw [Tiles.sumsOf_length]; simp only; omega)] at h
        exact h
      go_wp2_with fail
      go_ret
      exact ⟨_, rfl, owns_base HF.out HB0.out.size, bt HB0.out HB.out⟩

end Go.Proofs.YtigbbhojgajkjaiGreatDoor.WalkTileRef
