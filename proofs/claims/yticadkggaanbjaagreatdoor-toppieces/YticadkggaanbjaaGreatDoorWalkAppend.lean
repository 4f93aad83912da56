/-
  What the program's Append and Root do to Peaks that the call owns.
-/
import Derived.Test.YticadkggaanbjaaGreatDoorWalkJoin
import Derived.Deep.DeepMust
namespace Go.Proofs.YticadkggaanbjaaGreatDoor.WalkAppend
open Go.RowKit
open Lists (Row ints bt)
open Keeps (Kept owns_kept owns_open owns_set owns_take owns_row owns_base)
open WalkCheck (errv errv0 errv_pos)
open WalkPeaks (Pk foot info3)
open WalkBits (Tab)

theorem tab_kept {S : Nat → Prop} {w w' : World} (h : Tab w) (k : Kept S w w') (hS : ¬ S 2) : Tab w' := by
  intro j hj
  have hc := h j hj
  rw [k.cell (p := ⟨2, j, none⟩) (Lists.block_lt hc) hS]; exact hc

theorem row_size {w : World} {b s : Nat} {v : Value} (h : w.rowIs b 132 2 (fun i => if i = 0 then .int .i64 (s : Int) else v)) (n : Int) :
    (w.setCell ⟨b, 0, none⟩ (.int .i64 n)).rowIs b 132 2 (fun i => if i = 0 then .int .i64 n else v) :=
  (h.set 0 _).congr fun i hi => by
    match i, hi with
    | 0, _ => rfl
    | 1, _ => rfl

theorem pk_store {w : World} {B b s : Nat} {v u : Value} {ys : List Int} (h : w.rowIs b 132 2 (fun i => if i = 0 then .int .i64 (s : Int) else v)) (hb : B ≤ b)
    (o : w.ownsRow B 3 1 u ys.length (ints ys)) (ap : u.ownBlock ≠ some b) : Pk (w.setCell ⟨b, 1, none⟩ u) B b s u ys :=
  ⟨(h.set 1 _).congr fun i hi => by
    match i, hi with
    | 0, _ => rfl
    | 1, _ => rfl, hb,
    owns_kept o (Kept.setCell (p := ⟨b, 1, none⟩) (Kept.refl (fun k => k = b) w) (Or.inl rfl) u) fun i hi e => ap (by rw [hi, e]), ap⟩

theorem row_grown {w wn : World} {b : Nat} {t : TypeId} {f : Nat → Value} {r : Option Nat} (h : w.rowIs b t 2 f) (g : w.grownBy wn r) (ap : r ≠ some b) : wn.rowIs b t 2 f :=
  h.of_block (g.block b h.lt fun e => ap e.symm)

theorem append_range (w : World) (b : Nat) (x : Int) (hx : Nums.valid x = false) :
    Calls Tryz.prog 29 #[.pointer (some ⟨b, 0, none⟩), .int .i64 x] w fun e w' => e = .returned (errv 1) ∧ w' = w := by
  have H : Hid (Nums.valid x = false) := hx
  clear hx
  go_enter Tryz.func29, Tryz.ntmps29
  go_wp2_with (go_at_call 71; refine (WalkMix.isSum_no _ _ H.out).mono ?_; rintro e w' ⟨rfl, rfl⟩)
  go_ret
  exact ⟨rfl, rfl⟩

theorem append_full (w : World) (B b s : Nat) (v : Value) (xs : List Int) (x : Int) (h : Pk w B b s v xs) (hs : 200 ≤ s) (hx : Nums.valid x = true) :
    Calls Tryz.prog 29 #[.pointer (some ⟨b, 0, none⟩), .int .i64 x] w fun e w' => e = .returned (errv 4) ∧ w' = w := by
  have H : Hid (Nums.valid x = true) := hx
  have c0 : w.cell? ⟨b, 0, none⟩ = some (.int .i64 (s : Int)) := h.lies.cell (i := 0) (by omega)
  have i0 : (200 : Int) ≤ (s : Int) := by omega
  clear hx h
  go_enter Tryz.func29, Tryz.ntmps29
  go_wp2_with (go_at_call 71; refine (WalkMix.isSum_yes _ _ H.out).mono ?_; rintro e w' ⟨rfl, rfl⟩)
  go_ret
  exact ⟨rfl, rfl⟩

set_option maxHeartbeats 1000000 in
set_option maxRecDepth 100000 in
theorem append_yes (w : World) (B b s : Nat) (v : Value) (xs : List Int) (x : Int) (h : Pk w B b s v xs) (hs : s < 200) (hx : Nums.valid x = true) (hv : ∀ y ∈ xs, Nums.valid y = true)
    (hn : xs.length ≤ 200) (ht : Peaks.tz (s + 1) ≤ xs.length) (hT : Tab w) (hB : 2 < B) :
    Calls Tryz.prog 29 #[.pointer (some ⟨b, 0, none⟩), .int .i64 x] w fun e w' => e = .returned .nilIface ∧
      ∃ v', Pk w' B b (s + 1) v' (Peaks.carry (Peaks.tz (s + 1)) (xs ++ [x])) ∧ Kept (foot b v) w w' ∧ ∀ k, v'.ownBlock = some k → v.ownBlock = some k ∨ w.heap.size ≤ k := by
  obtain ⟨i0, hi, hz0, hz1, hz2⟩ := info_parts info3
  have H : Hid (Nums.valid x = true) := hx
  have c0 : w.cell? ⟨b, 0, none⟩ = some (.int .i64 (s : Int)) := h.lies.cell (i := 0) (by omega)
  have c1 : w.cell? ⟨b, 1, none⟩ = some v := h.lies.cell (i := 1) (by omega)
  have f0 := h.lies.frozen 0
  have s0 : ¬ (200 : Int) ≤ (s : Int) := by omega
  have HP : Hid (Pk w B b s v xs) := h
  have HV : Hid (∀ y ∈ xs, Nums.valid y = true) := hv
  have HT : Hid (Tab w) := hT
  have l1 : (w.setCell ⟨b, 0, none⟩ (.int .i64 ((s : Int) + 1))).rowIs b 132 2 (fun i => if i = 0 then .int .i64 ((s : Int) + 1) else v) := row_size h.lies _
  have k1 : Kept (foot b v) w (w.setCell ⟨b, 0, none⟩ (.int .i64 ((s : Int) + 1))) := Kept.setCell (p := ⟨b, 0, none⟩) (Kept.refl (foot b v) w) (Or.inl (Or.inl rfl)) _
  have o1 : (w.setCell ⟨b, 0, none⟩ (.int .i64 ((s : Int) + 1))).ownsRow B 3 1 v xs.length (ints xs) :=
    owns_kept h.own (Kept.setCell (p := ⟨b, 0, none⟩) (Kept.refl (fun k => k = b) w) (Or.inl rfl) _) fun i hi e => h.apart (by rw [hi, e])
  have HL : Hid ((w.setCell ⟨b, 0, none⟩ (.int .i64 ((s : Int) + 1))).rowIs b 132 2 (fun i => if i = 0 then .int .i64 ((s : Int) + 1) else v)) := l1
  clear hx h hv hT l1
  go_enter Tryz.func29, Tryz.ntmps29
  go_wp2_with fail
  refine (WalkMix.isSum_yes _ _ H.out).mono ?_
  rintro e w' ⟨rfl, rfl⟩
  have HO : Hid ((w'.setCell ⟨b, 0, none⟩ (.int .i64 ((s : Int) + 1))).ownsRow B 3 1 v xs.length (ints xs)) := o1
  have HK : Hid (Kept (foot b v) w' (w'.setCell ⟨b, 0, none⟩ (.int .i64 ((s : Int) + 1)))) := k1
  have lz : b < w'.heap.size ∧ ∀ k, v.ownBlock = some k → B ≤ k ∧ k < w'.heap.size := ⟨HP.out.lies.lt, fun k hk => HP.out.own.lt k hk⟩
  have ap := HP.out.apart
  have hbb := HP.out.above
  have HN : Hid (∀ j u, [Value.int .i64 x][j]? = some u → ((w'.setCell ⟨b, 0, none⟩ (.int .i64 ((s : Int) + 1))).alloc (.cells #[.int .i64 x] 3)).cell? ((⟨w'.heap.size, 0, none⟩ : Addr).add j) = some u) := by
    have hc := cell_one_new (w'.setCell ⟨b, 0, none⟩ (.int .i64 ((s : Int) + 1))) (.int .i64 x) 3
    rwa [show (w'.setCell ⟨b, 0, none⟩ (.int .i64 ((s : Int) + 1))).heap.size = w'.heap.size by simp [World.setCell]] at hc
  clear o1 k1
  go_wp2_with (at_builtin; go_must (refine wpList_append_own_at _ rfl (.tmp 26) (.tmp 28) 45 rfl B 3 i0 (.int .i64 0) 1 8 Tryz.underlying45 hi hz0 hz1 hz2 rfl (by decide) v xs.length (ints xs) rfl (HO.out.alloc _) ⟨w'.heap.size, 0, none⟩ 1 1 [.int .i64 x] rfl rfl HN.out (fun u hu => by rw [List.mem_singleton.1 hu]; rfl) (by unfold maxLen; omega) (by omega) (by have := lz.1; simp [World.setCell]; omega) ?_); intro v1 wn oN g1 hx1 at1; clear hx1; obtain ⟨a1, cp1, rfl, q1, q2⟩ := owns_row oN; clear q1 q2; have lN := row_grown (HL.out.alloc _) g1 ap; have d0 : wn.cell? ⟨b, 0, none⟩ = some (.int .i64 ((s : Int) + 1)) := lN.cell (i := 0) (by omega); have d1 : wn.cell? ⟨b, 1, none⟩ = some v := lN.cell (i := 1) (by omega); have fN := lN.frozen 1)
  have sz : ((w'.setCell ⟨b, 0, none⟩ (.int .i64 ((s : Int) + 1))).alloc (.cells #[.int .i64 x] 3)).heap.size = w'.heap.size + 1 := by simp [World.setCell]
  rw [sz] at at1
  have ap1 : (Value.slice a1 (xs.length + 1) cp1).ownBlock ≠ some b := by
    rcases at1 with e | e
    · rw [e]; exact ap
    · rw [e]; intro q; have := Option.some.inj q; have := lz.1; omega
  have P3 : Pk (wn.setCell ⟨b, 1, none⟩ (.slice a1 (xs.length + 1) cp1)) B b (s + 1) (.slice a1 (xs.length + 1) cp1) (xs ++ [x]) := by
    refine pk_store (s := s + 1) (v := v) lN hbb ?_ ap1
    rw [show (xs ++ [x]).length = xs.length + 1 by simp, show ints (xs ++ [x]) = ints xs ++ [.int .i64 x] by simp [ints]]
    exact oN
  have K3 : Kept (foot b v) w' (wn.setCell ⟨b, 1, none⟩ (.slice a1 (xs.length + 1) cp1)) :=
    Kept.setCell (p := ⟨b, 1, none⟩) ((HK.out.alloc _).grown g1 fun k hk => Or.inl (Or.inr hk)) (Or.inl (Or.inl rfl)) _
  have T3 : Tab (wn.setCell ⟨b, 1, none⟩ (.slice a1 (xs.length + 1) cp1)) := tab_kept HT.out K3 (by
    rintro (q | q)
    · omega
    · have := (lz.2 _ q).1; omega)
  have HA : Hid (∀ k, (Value.slice a1 (xs.length + 1) cp1).ownBlock = some k → v.ownBlock = some k ∨ w'.heap.size ≤ k) := by
    intro k hk
    rcases at1 with e | e
    · exact .inl (by rw [← e]; exact hk)
    · right; rw [e] at hk; have := Option.some.inj hk; omega
  have HW : Hid (∀ y ∈ xs ++ [x], Nums.valid y = true) := by
    intro y hy
    rcases List.mem_append.1 hy with hy | hy
    · exact HV.out y hy
    · rw [List.mem_singleton.1 hy]; exact H.out
  have hl : (xs ++ [x]).length = xs.length + 1 := by simp
  clear at1 oN g1 lN d0 d1 fN HN HL HO HK HP sz c0 c1 f0
  generalize hys : xs ++ [x] = ys at P3 HW hl
  have HY : Hid (xs ++ [x] = ys) := hys
  clear hys
  have e1 : ((s : Int) + 1) = ((s + 1 : Nat) : Int) := by omega
  refine (WalkBits.tz_any _ (s + 1) _ e1 (by omega) (by omega) T3).mono ?_
  rintro e w3 ⟨rfl, rfl⟩
  generalize hw3 : (wn.setCell ⟨b, 1, none⟩ (.slice a1 (xs.length + 1) cp1)) = w3 at P3 K3 T3 ⊢
  clear hw3 e1 T3
  generalize (Value.slice a1 (xs.length + 1) cp1) = v1 at P3 HA ap1 ⊢
  generalize htt : Peaks.tz (s + 1) = t at ht ⊢
  have HZ : Hid (Peaks.tz (s + 1) = t) := htt
  clear htt
  go_wp2_with fail
  have HP3 : Hid (Pk w3 B b (s + 1) v1 ys) := P3
  have HK3 : Hid (Kept (foot b v) w' w3) := K3
  have t2 : t ≤ 200 := by omega
  clear P3 K3
  go_loopw [38] (fun i wr => ∃ (j : Nat) (v2 : Value), j ≤ t ∧ i = .int .i64 j ∧ Pk wr B b (s + 1) v2 (Peaks.carry j ys) ∧ Kept (foot b v1) w3 wr ∧ v2.ownBlock = v1.ownBlock) (fun i _ => t - (intOf i).toNat)
  case atStart => exact ⟨0, v1, Nat.zero_le _, rfl, HP3.out, Kept.refl _ _, rfl⟩
  case round =>
    obtain ⟨j, v2, hj, rfl, hp, hk, ho⟩ := hrel
    by_cases hlt : j < t
    · have i1 : (j : Int) < (t : Int) := by omega
      have hcl := Peaks.carry_length j ys (by omega)
      have q1 : wr.cell? ⟨b, 1, none⟩ = some v2 := hp.lies.cell (i := 1) (by omega)
      obtain ⟨m, hm⟩ : ∃ m, (Peaks.carry j ys).length = m + 2 := ⟨(Peaks.carry j ys).length - 2, by omega⟩
      have cJ := WalkJoin.joinLast_any (Peaks.carry j ys) v2 m B wr hm (by omega) (by have h := hp.own; rw [hm] at h; exact h) (Peaks.carry_valid j ys HW.out)
      have HP2 : Hid (Pk wr B b (s + 1) v2 (Peaks.carry j ys)) := hp
      have HK2 : Hid (Kept (foot b v1) w3 wr) := hk
      have HO2 : Hid (v2.ownBlock = v1.ownBlock) := ho
      clear hp hk ho
      go_wp2_with fail
      refine cJ.mono ?_
      rintro e w4 ⟨v3, rfl, o3, b3, k3⟩
      have l4 : w4.rowIs b 132 2 (fun i => if i = 0 then .int .i64 ((s + 1 : Nat) : Int) else v2) := HP2.out.lies.of_block (k3.block b HP2.out.lies.lt HP2.out.apart)
      have r1 : w4.cell? ⟨b, 1, none⟩ = some v2 := l4.cell (i := 1) (by omega)
      have g1 := l4.frozen 1
      have ap3 : v3.ownBlock ≠ some b := by rw [b3]; exact HP2.out.apart
      have P4 : Pk (w4.setCell ⟨b, 1, none⟩ v3) B b (s + 1) v3 (Peaks.carry (j + 1) ys) := pk_store (s := s + 1) (v := v2) l4 HP2.out.above (by rw [show (Peaks.carry (j + 1) ys).length = m + 1 by (rw [Peaks.carry, Peaks.joinLast_length _ (by omega)]; omega)]; exact o3) ap3
      have K4 : Kept (foot b v1) w3 (w4.setCell ⟨b, 1, none⟩ v3) :=
        Kept.setCell (p := ⟨b, 1, none⟩) (HK2.out.trans k3 fun i hi => Or.inl (Or.inr (by rw [← HO2.out]; exact hi))) (Or.inl (Or.inl rfl)) _
      have O4 : v3.ownBlock = v1.ownBlock := by rw [b3, HO2.out]
      obtain ⟨a3, cp3, rfl, z1, z2⟩ := owns_row o3
      clear z1 z2 cJ o3 b3 k3 HP2 HK2 HO2 hcl q1
      have HP4 : Hid (Pk (w4.setCell ⟨b, 1, none⟩ (.slice a3 (m + 1) cp3)) B b (s + 1) (.slice a3 (m + 1) cp3) (Peaks.carry (j + 1) ys)) := P4
      clear P4 l4
      go_wp2_with fail
      go_roundw
      case rel => exact ⟨j + 1, _, by omega, by go_num, HP4.out, K4, O4⟩
      case measure => simp [intOf]; omega
    · obtain rfl : j = t := by omega
      have i1 : ¬ (j : Int) < (j : Int) := by omega
      have HP2 : Hid (Pk wr B b (s + 1) v2 (Peaks.carry j ys)) := hp
      have HF : Hid (Kept (foot b v) w' wr) := HK3.out.trans hk (by
        rintro i (q | q)
        · exact Or.inl (Or.inl q)
        · rcases HA.out i q with q' | q'
          · exact Or.inl (Or.inr q')
          · exact Or.inr q')
      have HO2 : Hid (∀ k, v2.ownBlock = some k → v.ownBlock = some k ∨ w'.heap.size ≤ k) := fun k hk => HA.out k (by rw [← ho]; exact hk)
      clear hp hk ho
      go_wp2_with fail
      go_ret
      exact ⟨rfl, v2, by rw [HY.out, HZ.out]; exact HP2.out, HF.out, HO2.out⟩

end Go.Proofs.YticadkggaanbjaaGreatDoor.WalkAppend
