/-
  What package keys returns (Bits, Root, Prove, Check), for all pairs, keys, values, roots and proofs.
-/
import Derived.Test.YtekahahaknamfaiDoorWalkKyProve
import Derived.Test.YtekahahaknamfaiDoorWalkIsSum
namespace Go.Proofs.YtekahahaknamfaiDoor.WalkKy
open Go.RowKit
open Lists (Row ints bt)
open Wides (Wide)
open Stores (Pair keyE)
open PairRows (cells)
open Errs (errv errv0 errv_pos)
open KeyTrees
open WalkKyMap (Arr pv)
open WalkKyPlace (placeL z8 load_arr store_arr empty_yes empty_no)

theorem bits_any (k : ByteArray) (w : World) (hk : k.size ≤ maxLen) : Calls Tryd.prog 19 #[.string k] w fun e w' => e = .returned (.tuple #[.string (Nums.str (bitsV k)), errv (keyE k)]) ∧ Below w.heap.size w w' := WalkKyBits.bits_any k w hk
theorem root_any (l : List Pair) (a : Option Addr) (n cap : Nat) (w : World) (hr : Wide 3 w a n cap (cells l)) (hz : ∀ e ∈ l, e.key.size ≤ maxLen ∧ e.val.size ≤ maxLen) : Calls Tryd.prog 12 #[.slice a n cap] w fun e w' => e = .returned (.tuple #[.int .i64 (rootV l), errv (pairsE l)]) ∧ Below w.heap.size w w' := WalkKyProve.root_any l a n cap w hr hz
theorem prove_any (l : List Pair) (a : Option Addr) (n cap : Nat) (k : ByteArray) (w : World) (hr : Wide 3 w a n cap (cells l)) (hz : ∀ e ∈ l, e.key.size ≤ maxLen ∧ e.val.size ≤ maxLen) (hk : k.size ≤ maxLen) : Calls Tryd.prog 16 #[.slice a n cap, .string k] w fun e w' => ∃ v, e = .returned (.tuple #[v, errv (proveE l k)]) ∧ w'.ownsRow w.heap.size 3 1 v (proveL l k).length (ints (proveL l k)) ∧ Below w.heap.size w w' := WalkKyProve.prove_any l a n cap k w hr hz hk

theorem notSum_any (n : Int) (w : World) : Calls Tryd.prog 44 #[.int .i64 n] w fun e w' => e = .returned (.bool (!Nums.valid n)) ∧ w' = w := by
  have cI := WalkIsSum.isSum_any n w
  generalize Nums.valid n = b at cI
  go_enter Tryd.func44, Tryd.ntmps44
  go_wp2_with fail
  refine cI.mono ?_
  rintro e w1 ⟨rfl, rfl⟩
  clear cI
  cases b <;> (go_wp2_with fail; go_ret; exact ⟨rfl, rfl⟩)

set_option maxHeartbeats 1000000 in
theorem indexBad_any (l : List Int) (a : Option Addr) (n cap : Nat) (w : World) (hn : n ≤ 17592186043904) (hr : Row w a n cap (ints l)) :
    Calls Tryd.prog 61 #[.slice a n cap, .func (.func 44) #[] #[]] w fun e w' =>
      ∃ i : Int, e = .returned (.int .i64 i) ∧ (Trees.allOk l = true → i = -1) ∧ (Trees.allOk l = false → 0 ≤ i) ∧ w' = w := by
  have hln : l.length = n := by rw [← hr.1, Lists.ints_length]
  have HR : Hid (Row w a n cap (ints l)) := hr
  clear hr
  go_enter Tryd.func61, Tryd.ntmps61
  go_wp2_with fail
  go_loop [8] (fun i => ∃ k : Nat, k ≤ n ∧ i = .int .i64 k ∧ Hid (Trees.allOk (l.take k) = true)) (fun i => n - (intOf i).toNat)
  case atStart => exact ⟨0, Nat.zero_le _, rfl, rfl⟩
  case round =>
    obtain ⟨k, hk, rfl, HA⟩ := hrel
    by_cases hlt : k < n
    · obtain ⟨b, off, rfl, hc⟩ := HR.out.2.2 (by omega)
      have hcell := hc k _ (Lists.ints_at (by omega))
      clear hc
      have HS : Hid (Trees.allOk (l.take (k + 1)) = (Trees.allOk (l.take k) && Nums.valid (l.getD k 0))) := Trees.allOk_snoc l k (by omega)
      have HN : Hid (Nums.valid (l.getD k 0) = false → Trees.allOk l = false) := Trees.allOk_no l k (by omega)
      generalize l.getD k 0 = x at hcell HS HN
      cases hx : Nums.valid x
      · have hx' : Hid (Nums.valid x = false) := hx
        have hb : (!Nums.valid x) = true := by rw [hx]; rfl
        clear hx
        go_wp2_with (go_at_call 44; refine (notSum_any _ _).mono ?_; rintro e w' ⟨rfl, rfl⟩; rw [hb])
        go_ret
        exact ⟨_, rfl, fun h => (by rw [HN.out hx'.out] at h; cases h), fun _ => by omega, rfl⟩
      · have hx' : Hid (Nums.valid x = true) := hx
        have hb : (!Nums.valid x) = false := by rw [hx]; rfl
        clear hx
        go_wp2_with (go_at_call 44; refine (notSum_any _ _).mono ?_; rintro e w' ⟨rfl, rfl⟩; rw [hb])
        go_round
        case rel => exact ⟨k + 1, by omega, by go_num, by rw [HS.out, HA.out, hx'.out]; rfl⟩
        case measure => simp [intOf]; omega
    · go_wp2_with fail
      go_ret
      exact ⟨_, rfl, fun _ => rfl, fun h => (by rw [← hln] at hlt; have := HA.out; rw [List.take_of_length_le (by omega), h] at this; cases this), rfl⟩

theorem contains_any (l : List Int) (a : Option Addr) (n cap : Nat) (w : World) (hn : n ≤ 17592186043904) (hr : Row w a n cap (ints l)) :
    Calls Tryd.prog 43 #[.slice a n cap, .func (.func 44) #[] #[]] w fun e w' => e = .returned (.bool (!Trees.allOk l)) ∧ w' = w := by
  have HR : Hid (Row w a n cap (ints l)) := hr
  clear hr
  go_enter Tryd.func43, Tryd.ntmps43
  go_wp2_with fail
  refine (indexBad_any l a n cap w hn HR.out).mono ?_
  rintro e w' ⟨i, rfl, hy, hno, rfl⟩
  cases h : Trees.allOk l
  · have h0 := hno h
    have H : Hid (Trees.allOk l = false) := h
    clear hy hno h
    go_wp2_with fail
    go_ret
    exact ⟨by rw [H.out]; rfl, rfl⟩
  · have h0 := hy h
    subst h0
    have H : Hid (Trees.allOk l = true) := h
    clear hy hno h
    go_wp2_with fail
    go_ret
    exact ⟨by rw [H.out]; rfl, rfl⟩

set_option maxHeartbeats 2000000 in
set_option maxRecDepth 100000 in
theorem check_any (root : Int) (k v : ByteArray) (there : Bool) (p : List Int) (a : Option Addr) (n cap : Nat) (w : World) (hk : k.size ≤ maxLen) (hv : v.size ≤ maxLen) (hr : Row w a n cap (ints p)) (hn : n ≤ 17592186043904) : Calls Tryd.prog 25 #[.int .i64 root, .string k, .string v, .bool there, .slice a n cap] w fun e w' => e = .returned (errv (checkE root k v there p)) ∧ Below w.heap.size w w' := by
  have hln : p.length = n := by rw [← hr.1, Lists.ints_length]
  have m1 : (v.size : Int) ≤ 9223372036854775807 := by unfold maxLen at hv; omega
  have HR : Hid (Row w a n cap (ints p)) := hr
  have cI := WalkIsSum.isSum_any root w
  clear hr
  cases h1 : Nums.valid root with
  | false =>
    have HE : Hid (checkE root k v there p = 1) := by show _ = _; unfold checkE; rw [if_pos h1]
    rw [h1] at cI
    clear h1
    go_enter Tryd.func25, Tryd.ntmps25
    go_wp2_with fail
    refine cI.mono ?_
    rintro e w1 ⟨rfl, rfl⟩
    clear cI
    go_wp2_with fail
    go_ret
    exact ⟨by rw [HE.out]; rfl, Below.refl _ _⟩
  | true =>
    rw [h1] at cI
    have cP := WalkKyPlace.place_any k w hk
    by_cases hK : keyE k = 0
    · rw [show placeL k = bitsT (spot k) from if_pos hK, hK, errv0] at cP
      have HLn : Hid ((bitsT (spot k)).length = 8) := bitsT_length _
      have H1 : Hid (Nums.valid root = true) := h1
      have HK : Hid (keyE k = 0) := hK
      have e1 : ¬ (Nums.valid root = false) := by rw [h1]; decide
      have e2 : ¬ (keyE k ≠ 0) := fun h => h hK
      have HKs := (WalkKyLeafs.key_size hK).2
      go_enter Tryd.func25, Tryd.ntmps25
      go_wp2_with fail
      refine cI.mono ?_
      rintro e w1 ⟨rfl, rfl⟩
      clear cI
      go_wp2_with fail
      refine cP.mono ?_
      rintro e w2 ⟨rfl, b2⟩
      have HZ : Hid (Arr (w2.alloc (.cells z8 80)) w2.heap.size (List.replicate 8 0)) := (show Arr _ _ _ from ⟨heap_alloc_new w2 _, rfl⟩)
      have HB2 := b2
      clear cP b2
      go_upto_region 4 with (first | (refine store_arr rfl (.tmp 11) (.tmp 21) rfl _ rfl _ rfl HZ.out HLn.out ?_; intro w3 A3 g3))
      have HB3 : Hid (Below w1.heap.size w1 w3) := (HB2.alloc HB2.size _).grown g3 (by have := HB2.size; simp; omega) (fun k hk => by cases hk; exact HB2.size)
      have HR3 : Hid (Row w3 a n cap (ints p)) := HR.out.below HB3.out
      have HA3 : Hid (Arr w3 w2.heap.size (bitsT (spot k))) := A3
      clear A3 g3 HB2 HZ HR h1 hK
      generalize w2.heap.size = ga at HA3
      by_cases h4 : 200 < v.size
      · have HE : Hid (checkE root k v there p = 4) := by show _ = _; unfold checkE; rw [if_neg e1, if_neg e2, if_pos h4]
        have i4 : (200 : Int) < (v.size : Int) := by omega
        clear e1 e2 h4
        go_wp2_with fail
        go_ret
        exact ⟨by rw [HE.out]; rfl, HB3.out⟩
      have i4 : ¬ (200 : Int) < (v.size : Int) := by omega
      by_cases h8 : n = 8
      · subst h8
        by_cases hs : there = false ∧ v.size ≠ 0
        · have HE : Hid (checkE root k v there p = 3) := by show _ = _; unfold checkE; rw [if_neg e1, if_neg e2, if_neg h4, if_pos (.inr hs)]
          obtain ⟨rfl, hs0⟩ := hs
          have e0 := empty_no hs0
          clear e1 e2 h4 hs0
          go_wp2_with fail
          go_ret
          exact ⟨by rw [HE.out]; rfl, HB3.out⟩
        · have HX : Hid (checkE root k v there p = if Trees.allOk p = false then 1 else if Ways.upL (stands k v there) p (turns (spot k)) ≠ root then 8 else 0) := by
            show _ = _
            unfold checkE
            rw [if_neg e1, if_neg e2, if_neg h4, if_neg]
            rintro (q | q)
            · exact q hln
            · exact hs q
          have HKs2 : Hid (k.size ≤ 1000) := by show _ ≤ _; omega
          have HVs2 : Hid (v.size ≤ 1000) := by show _ ≤ _; omega
          have HSv : Hid (Nums.valid (stands k v there) = true) := stands_valid k v there
          have HC : Hid (∀ w', Row w' a 8 cap (ints p) → Calls Tryd.prog 43 #[.slice a 8 cap, .func (.func 44) #[] #[]] w' fun e w2 => e = .returned (.bool (!Trees.allOk p)) ∧ w2 = w') := fun w' r => contains_any p a 8 cap w' hn r
          have e0 : there = false → (v.toList == []) = true := fun h => empty_yes (Decidable.not_not.1 fun q => hs ⟨h, q⟩)
          clear e1 e2 h4 hs HKs hk hv hn
          cases there with
          | false =>
            have e1 := e0 rfl
            clear e0
            cases hO : Trees.allOk p with
            | false =>
              have HE : Hid (checkE root k v false p = 1) := by rw [HX.out, if_pos hO]; exact rfl
              rw [hO] at HC
              clear hO HX
              go_wp2_with fail
              refine (HC.out _ HR3.out).mono ?_
              rintro e w4 ⟨rfl, rfl⟩
              go_wp2_with fail
              go_ret
              exact ⟨by rw [HE.out]; rfl, HB3.out⟩
            | true =>
              have HE : Hid (checkE root k v false p = if Ways.upL nothing p (turns (spot k)) ≠ root then 8 else 0) := by rw [HX.out, if_neg (by rw [hO]; decide)]; rfl
              have HF : Hid (∀ w', Row w' a 8 cap (ints p) → Calls Tryd.prog 47 #[pv (bitsT (spot k)), .int .i64 nothing, .slice a 8 cap] w' fun e w2 => e = .returned (.int .i64 (Ways.upL nothing p (turns (spot k)))) ∧ Below w'.heap.size w' w2) := fun w' r => WalkKyTree.from_any (spot k) nothing p a 8 cap w' r rfl (List.all_eq_true.1 hO) nothing_valid
              have HFr : Hid (∀ w', Calls Tryd.prog 45 #[] w' fun e w2 => e = .returned (.int .i64 nothing) ∧ w2 = w') := fun w' => WalkKyBits.free_any w'
              rw [hO] at HC
              generalize Ways.upL nothing p (turns (spot k)) = R at HE HF
              generalize nothing = Z at HF HFr
              clear hO HX HSv
              go_wp2_with fail
              refine (HC.out _ HR3.out).mono ?_
              rintro e w4 ⟨rfl, rfl⟩
              go_wp2_with fail
              refine (HFr.out _).mono ?_
              rintro e w5 ⟨rfl, rfl⟩
              go_wp2_with (refine load_arr rfl (.tmp 11) rfl _ rfl _ HA3.out ?_)
              refine (HF.out _ HR3.out).mono ?_
              rintro e w6 ⟨rfl, b6⟩
              have HB6 : Hid (Below w1.heap.size w1 w6) := bt HB3.out b6
              clear b6 HR3 HA3 HB3 HC HF HFr
              by_cases hR : R = root
              · have e9 : (R != root) = false := by simp [hR]
                rw [if_neg (fun h => h hR)] at HE
                clear hR
                go_wp2_with fail
                go_ret
                exact ⟨by rw [HE.out]; rfl, HB6.out⟩
              · have e9 : (R != root) = true := by simp [hR]
                rw [if_pos hR] at HE
                clear hR
                go_wp2_with fail
                go_ret
                exact ⟨by rw [HE.out]; rfl, HB6.out⟩
          | true =>
            clear e0
            cases hO : Trees.allOk p with
            | false =>
              have HE : Hid (checkE root k v true p = 1) := by rw [HX.out, if_pos hO]; exact rfl
              rw [hO] at HC
              clear hO HX
              go_wp2_with fail
              refine (HC.out _ HR3.out).mono ?_
              rintro e w4 ⟨rfl, rfl⟩
              go_wp2_with fail
              go_ret
              exact ⟨by rw [HE.out]; rfl, HB3.out⟩
            | true =>
              have HE : Hid (checkE root k v true p = if Ways.upL (placed k v) p (turns (spot k)) ≠ root then 8 else 0) := by rw [HX.out, if_neg (by rw [hO]; decide)]; rfl
              have HF : Hid (∀ w', Row w' a 8 cap (ints p) → Calls Tryd.prog 47 #[pv (bitsT (spot k)), .int .i64 (placed k v), .slice a 8 cap] w' fun e w2 => e = .returned (.int .i64 (Ways.upL (placed k v) p (turns (spot k)))) ∧ Below w'.heap.size w' w2) := fun w' r => WalkKyTree.from_any (spot k) (placed k v) p a 8 cap w' r rfl (List.all_eq_true.1 hO) (placed_valid k v)
              have HFr : Hid (∀ w', Calls Tryd.prog 45 #[] w' fun e w2 => e = .returned (.int .i64 nothing) ∧ w2 = w') := fun w' => WalkKyBits.free_any w'
              have HLf : Hid (∀ w', Calls Tryd.prog 46 #[.string k, .string v] w' fun e w2 => e = .returned (.int .i64 (placed k v)) ∧ w2 = w') := fun w' => WalkKyBits.leaf_any k v w' HKs2.out HVs2.out
              rw [hO] at HC
              generalize Ways.upL (placed k v) p (turns (spot k)) = R at HE HF
              generalize nothing = Z at HFr
              generalize placed k v = Y at HF HLf
              clear hO HX HSv
              go_wp2_with fail
              refine (HC.out _ HR3.out).mono ?_
              rintro e w4 ⟨rfl, rfl⟩
              go_wp2_with fail
              refine (HFr.out _).mono ?_
              rintro e w5 ⟨rfl, rfl⟩
              go_wp2_with fail
              refine (HLf.out _).mono ?_
              rintro e w5 ⟨rfl, rfl⟩
              go_wp2_with (refine load_arr rfl (.tmp 11) rfl _ rfl _ HA3.out ?_)
              refine (HF.out _ HR3.out).mono ?_
              rintro e w6 ⟨rfl, b6⟩
              have HB6 : Hid (Below w1.heap.size w1 w6) := bt HB3.out b6
              clear b6 HR3 HA3 HB3 HC HF HFr
              by_cases hR : R = root
              · have e9 : (R != root) = false := by simp [hR]
                rw [if_neg (fun h => h hR)] at HE
                clear hR
                go_wp2_with fail
                go_ret
                exact ⟨by rw [HE.out]; rfl, HB6.out⟩
              · have e9 : (R != root) = true := by simp [hR]
                rw [if_pos hR] at HE
                clear hR
                go_wp2_with fail
                go_ret
                exact ⟨by rw [HE.out]; rfl, HB6.out⟩
      · have HE : Hid (checkE root k v there p = 3) := by show _ = _; unfold checkE; rw [if_neg e1, if_neg e2, if_neg h4, if_pos (.inl (by omega))]
        have i8 : ((n : Int) != 8) = true := by simp; omega
        clear e1 e2 h4 h8
        go_wp2_with fail
        go_ret
        exact ⟨by rw [HE.out]; rfl, HB3.out⟩
    · have HE : Hid (errv (checkE root k v there p) = .iface 66 (.int .i64 (keyE k : Int))) := by
        show _ = _
        unfold checkE
        rw [if_neg (by rw [h1]; decide), if_pos hK]
        exact errv_pos _ hK
      rw [show placeL k = List.replicate 8 0 from if_neg hK, errv_pos _ hK] at cP
      generalize ((keyE k : Nat) : Int) = E at cP HE
      clear hK h1
      go_enter Tryd.func25, Tryd.ntmps25
      go_wp2_with fail
      refine cI.mono ?_
      rintro e w1 ⟨rfl, rfl⟩
      clear cI
      go_wp2_with fail
      refine cP.mono ?_
      rintro e w2 ⟨rfl, b2⟩
      have HZ : Hid (Arr (w2.alloc (.cells z8 80)) w2.heap.size (List.replicate 8 0)) := (show Arr _ _ _ from ⟨heap_alloc_new w2 _, rfl⟩)
      have HB2 : Hid (Below w1.heap.size w1 w2) := b2
      clear cP b2
      go_wp2_with (first | (refine store_arr rfl (.tmp 11) (.tmp 21) rfl _ rfl _ rfl HZ.out rfl ?_; intro w3 A3 g3; have HB3 : Hid (Below w1.heap.size w1 w3) := (HB2.out.alloc HB2.out.size _).grown g3 (by have := HB2.out.size; simp; omega) (fun k hk => by cases hk; exact HB2.out.size); clear A3 g3))
      go_ret
      exact ⟨by rw [HE.out]; rfl, HB3.out⟩

end Go.Proofs.YtekahahaknamfaiDoor.WalkKy
