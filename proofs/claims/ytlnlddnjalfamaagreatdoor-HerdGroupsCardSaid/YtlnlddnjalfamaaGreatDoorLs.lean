/-
  The reference's Groups.
-/
import Derived.Test.YtlnlddnjalfamaaGreatDoorLh
import Derived.Test.YtlnlddnjalfamaaGreatDoorKx
namespace Go.Proofs.YtlnlddnjalfamaaGreatDoor
open Go.RowKit Go.Deep

def growL (L : List Nat) (s : Nat) : List Nat := L ++ List.replicate (s + 1 - L.length) 0
/-- one more of size s -/
def bump (L : List Nat) (s : Nat) : List Nat := (growL L s).set s ((growL L s).getD s 0 + 1)
theorem growL_len (L : List Nat) (s : Nat) : (growL L s).length = max L.length (s + 1) := by
  unfold growL
  rw [List.length_append, List.length_replicate]
  omega
theorem growL_get (L : List Nat) (s i : Nat) : (growL L s).getD i 0 = L.getD i 0 := by
  unfold growL
  rw [List.getD_eq_getElem?_getD, List.getD_eq_getElem?_getD, List.getElem?_append]
  by_cases h : i < L.length
  · rw [if_pos h]
  · rw [if_neg h, List.getElem?_eq_none (show L.length ≤ i by omega), List.getElem?_replicate]
    split <;> rfl
theorem bump_len (L : List Nat) (s : Nat) : (bump L s).length = max L.length (s + 1) := by
  unfold bump
  rw [List.length_set, growL_len]
theorem bump_get (L : List Nat) (s i : Nat) : (bump L s).getD i 0 = L.getD i 0 + (if s = i then 1 else 0) := by
  unfold bump
  rw [List.getD_eq_getElem?_getD, List.getElem?_set]
  by_cases h : s = i
  · subst h
    rw [if_pos rfl, if_pos (by rw [growL_len]; omega), if_pos rfl, growL_get]
    rfl
  · rw [if_neg h, if_neg h, ← List.getD_eq_getElem?_getD, growL_get]
    rfl
/-- how many of the sets below k are groups of each size -/
def rgs (F : Nat → Nat → Bool) (n : Nat) : Nat → List Nat
  | 0 => []
  | k + 1 => if grpB F (horsesL k n) (horsesL k n).length then bump (rgs F n k) (horsesL k n).length else rgs F n k
def gpB (F : Nat → Nat → Bool) (n k : Nat) : Bool := grpB F (horsesL k n) (horsesL k n).length
theorem rgs_get (F : Nat → Nat → Bool) (n i : Nat) : ∀ k, (rgs F n k).getD i 0 = cnt (fun t => gpB F n t && ((horsesL t n).length == i)) k := by
  intro k
  induction k with
  | zero => rfl
  | succ k ih =>
    simp only [rgs, cnt]
    unfold gpB at ih ⊢
    by_cases e : grpB F (horsesL k n) (horsesL k n).length = true
    · rw [if_pos e, bump_get, ih]
      congr 1
      by_cases h : (horsesL k n).length = i
      · subst h; simp [e]
      · simp [h]
    · rw [if_neg e, ih]
      simp [e]
theorem rgs_len (F : Nat → Nat → Bool) (n : Nat) : ∀ k, (rgs F n k).length = mxN (fun t => if gpB F n t then (horsesL t n).length + 1 else 0) k := by
  intro k
  induction k with
  | zero => rfl
  | succ k ih =>
    simp only [rgs, mxN]
    rw [← ih]
    unfold gpB
    by_cases e : grpB F (horsesL k n) (horsesL k n).length = true
    · rw [if_pos e, bump_len, if_pos e]
    · rw [if_neg e, if_neg e]
      omega
theorem mxN_att (f : Nat → Nat) (n i B : Nat) (hi : i < n) (h1 : f i = B) (h : ∀ t, t < n → f t ≤ B) : mxN f n = B := by
  have := mxN_le f n i hi
  have := mxN_bd f B n h
  omega
theorem nodup_len {A B : List Nat} (ha : A.Nodup) (hb : B.Nodup) (h : ∀ x, x ∈ A ↔ x ∈ B) : A.length = B.length :=
  Nat.le_antisymm (nodup_le A B ha fun x hx => (h x).1 hx) (nodup_le B A hb fun x hx => (h x).2 hx)
theorem cliq_nodup {H : Nat → Nat} {n : Nat} (hn : n ≤ 14) : (cliq H n n 0 (allH n)).Nodup := by
  have h := cliq_order (H := H) hn n 0 (allH n) (allH_lt (by omega)) (fun j hj => by
    rw [allH_bit] at hj
    have : j < n := by simpa using hj
    exact ⟨by omega, this, by simp⟩)
  refine h.imp fun {a b} hab e => ?_
  subst e
  rcases hab with h1 | h1
  · exact h1.asymm h1
  · omega
/-- the reference's Groups are the program's -/
theorem rgs_all {H : Nat → Nat} {F : Nat → Nat → Bool} {n : Nat} (hn : n ≤ 14) (hsym : Sym F n) (hF : ∀ i j, i < n → j < n → (H i).testBit j = F i j) : (rgs F n (2 ^ n)).length = size16 (best H n) + 1 ∧ ∀ i, (rgs F n (2 ^ n)).getD i 0 = cntS i (cliq H n n 0 (allH n)) := by
  have hb := best_spec H hn
  have hb1 : best H n < 2 ^ n := Nat.lt_pow_two_of_testBit _ fun i hi => by
    cases e : (best H n).testBit i with
    | false => rfl
    | true => have := hb.1.1 i e; omega
  constructor
  · rw [rgs_len]
    refine mxN_att _ _ (best H n) _ hb1 ?_ fun t ht => ?_
    · unfold gpB
      rw [(grpB_cl hb1 hsym hF).2 hb.1.2, if_pos rfl, horses_size (by omega) hb1]
    · cases e : gpB F n t with
      | false => rw [if_neg (by simp)]; omega
      | true =>
        rw [if_pos rfl, horses_size (by omega) ht]
        have := hb.2 t (fun j hj => bit_lt ht hj) ((grpB_cl ht hsym hF).1 e)
        omega
  · intro i
    rw [rgs_get, ← filt_cnt]
    unfold cntS
    refine nodup_len (List.Pairwise.filter _ List.nodup_range) (List.Pairwise.filter _ (cliq_nodup hn)) fun x => ?_
    unfold filt
    rw [List.mem_filter, List.mem_filter, List.mem_range, cliq_all hn]
    constructor
    · rintro ⟨hx, h⟩
      rw [Bool.and_eq_true, beq_iff_eq, horses_size (by omega) hx] at h
      exact ⟨⟨fun j hj => bit_lt hx hj, (grpB_cl hx hsym hF).1 h.1⟩, by rw [beq_iff_eq]; exact h.2⟩
    · rintro ⟨⟨h1, h2⟩, h3⟩
      have hx : x < 2 ^ n := Nat.lt_pow_two_of_testBit _ fun i hi => by
        cases e : x.testBit i with
        | false => rfl
        | true => have := h1 i e; omega
      exact ⟨hx, by rw [Bool.and_eq_true, beq_iff_eq, horses_size (by omega) hx]; exact ⟨(grpB_cl hx hsym hF).2 h2, by rwa [beq_iff_eq] at h3⟩⟩
theorem nats_set (L : List Nat) (i x : Nat) : (nats L).set i (.int .i64 (x : Int)) = nats (L.set i x) := by
  unfold nats
  rw [List.map_set]
def RGroupsPost (w : World) (L : List Nat) (e : Ending) (w' : World) : Prop := ∃ v, e = .returned v ∧ NatsAt w' v L ∧ Kept w w'
set_option maxRecDepth 100000 in
set_option maxHeartbeats 8000000 in
theorem refGroups_any (w : World) (v : Value) (n : Nat) (F : Nat → Nat → Bool) (hG : GridAt w v n F) (hn : n ≤ 9) :
    Calls Tryz.prog 19 #[v] w (RGroupsPost w (rgs F n (2 ^ n))) := by
  obtain ⟨i0, hi0, hz0, hz1, hz2⟩ := info_parts Tryz.info3
  have hp9 : 2 ^ n ≤ 2 ^ 9 := Nat.pow_le_pow_right (by omega) hn
  have hmem := Lib.hid (fun W s (h : s < 2 ^ n) => members_any W s n h (by omega))
  have hhl : Hid (∀ s, (horsesL s n).length ≤ n) := fun s => by rw [horsesL_len]; exact cnt_le _ _
  have hgrp := Lib.hid (fun W lv s (h1 : GridAt W v n F) (h2 : NatsAt W lv (horsesL s n)) => isGroup_any W v lv n F (horsesL s n) h1 h2 (fun a ha => (filt_get ha).1) (by have := hhl.out s; omega))
  have hrb : Hid (∀ k, rgs F n (k + 1) = if grpB F (horsesL k n) (horsesL k n).length then bump (rgs F n k) (horsesL k n).length else rgs F n k) := fun k => rfl
  have hlen : Hid (∀ k, (rgs F n k).length ≤ n + 1) := fun k => by
    rw [rgs_len]
    refine mxN_bd _ _ _ fun t _ => ?_
    split
    · have := hhl.out t; omega
    · omega
  have hval : Hid (∀ k i, (rgs F n k).getD i 0 ≤ k) := fun k i => by rw [rgs_get]; exact cnt_le _ _
  have hGr := hG
  obtain ⟨g, gcap, R, rfl, hG0⟩ := hG
  clear hG0
  obtain ⟨N, HN⟩ : ∃ N : Nat, Hid (N = 2 ^ n) := ⟨_, rfl⟩
  have hshl : (2 : Int) ^ n = (N : Int) := by rw [HN.out]; exact two_pow_int n
  rw [← HN.out] at hp9 hmem ⊢
  have hwN : IntKind.i64.wrap (N : Int) = N := IntWalk.i64_in _ (by omega)
  have hN9 : N ≤ 512 := by omega
  clear hp9
  go_enter Tryz.func19, Tryz.ntmps19
  go_wp2_with fail
  go_loopg [3, 4] N (fun q s3 s4 wr => ∃ k : Nat, k ≤ N ∧ q = N - k ∧ s4 = .int .i64 k ∧ Kept w wr ∧ wr.ownsRow w.heap.size 3 1 s3 (rgs F n k).length (nats (rgs F n k)))
  case atStart => exact ⟨0, Nat.zero_le _, rfl, by first | rfl | go_num, (Kept.refl w).alloc _, own_zeroP w w.heap.size 3 1 (Nat.le_refl _)⟩
  case round =>
    obtain ⟨k, hk, rfl, rfl, hK, hO⟩ := hrel
    by_cases hlt : k < N
    · have s1 : (k : Int) < (N : Int) := by omega
      have hM := Lib.hid (hmem.out wr k hlt)
      unfold MembersPost at hM
      have hG2 := hGr.kept hK
      have hst := hrb.out k
      have hl1 := hhl.out k
      have hl2 := hlen.out k
      have hv2 := hval.out k
      have GK := Lib.hid (fun W lv h1 h2 => hgrp.out W lv k h1 h2)
      obtain ⟨lk, HLK⟩ : ∃ l, Hid (l = horsesL k n) := ⟨_, rfl⟩
      rw [← HLK.out] at hM hst hl1 GK
      obtain ⟨L, HLL⟩ : ∃ l, Hid (l = rgs F n k) := ⟨_, rfl⟩
      rw [← HLL.out] at hst hl2 hO hv2
      obtain ⟨gb, HGB⟩ : ∃ b, Hid (b = grpB F lk lk.length) := ⟨_, rfl⟩
      rw [← HGB.out] at hst GK
      obtain ⟨nk, HNK⟩ : ∃ m, Hid (m = lk.length) := ⟨_, rfl⟩
      rw [← HNK.out] at hst hl1
      have hM2 : Hid (Calls Tryz.prog 52 #[.int .i64 k] wr fun e w' => ∃ u uc, e = .returned (.slice u nk uc) ∧ NatsAt w' (.slice u nk uc) lk ∧ Kept wr w') := hM.out.mono (by
        rintro e w' ⟨v, rfl, hO, hk'⟩
        have hv := NatsAt.of_own hO
        obtain ⟨u, uc, rfl⟩ := own_shape hO
        rw [HNK.out]
        exact ⟨_, _, rfl, hv, hk'⟩)
      obtain ⟨va, vcap, rfl⟩ := own_shape hO
      clear hM HGB
      cases gb with
      | false =>
        have hfin : Hid (rgs F n (k + 1) = L) := by show _ = _; rw [hst]; rfl
        clear hst
        go_wp2_with (first | (go_at_call 52; refine hM2.out.mono ?_; clear hM2; rintro e w2 ⟨u, uc, rfl, hu, hk2⟩) | (go_at_call 40; refine (GK.out _ _ (hG2.kept hk2) hu).mono ?_; clear GK; rintro e w3 ⟨rfl, hq3⟩))
        go_roundg (N - (k + 1))
        case measure => omega
        case rel => exact ⟨k + 1, by omega, rfl, by first | rfl | go_num, (hK.trans hk2).trans hq3.kept, by rw [hfin.out]; exact own_kept (own_kept hO hk2) hq3.kept⟩
      | true =>
        have hfin : Hid (rgs F n (k + 1) = bump L nk) := by show _ = _; rw [hst]; rfl
        clear hst
        go_wp2_with (first | (go_at_call 52; refine hM2.out.mono ?_; clear hM2; rintro e w2 ⟨u, uc, rfl, hu, hk2⟩) | (go_at_call 40; refine (GK.out _ _ (hG2.kept hk2) hu).mono ?_; clear GK; rintro e w3 ⟨rfl, hq3⟩))
        have hK3 := (hK.trans hk2).trans hq3.kept
        have hO3 := own_kept (own_kept hO hk2) hq3.kept
        have hO3' : w3.ownsRow w.heap.size 3 1 (.slice va L.length vcap) (L ++ List.replicate 0 0).length (nats (L ++ List.replicate 0 0)) := by simpa using hO3
        clear hO hO3 hk2 hq3 hK hu hG2
        have hN3 : Hid (nk + 1 - L.length - 0 = nk + 1 - L.length) := rfl
        go_loopg [3] (nk + 1 - L.length) (fun q s3 wr => ∃ t : Nat, (t = 0 ∨ L.length + t ≤ nk + 1) ∧ q = nk + 1 - L.length - t ∧ Kept w wr ∧ wr.ownsRow w.heap.size 3 1 s3 (L ++ List.replicate t 0).length (nats (L ++ List.replicate t 0)))
        case atStart => exact ⟨0, Or.inl rfl, rfl, hK3, hO3'⟩
        case round =>
          clear hK3 hO3'
          obtain ⟨t, ht, rfl, hK, hO⟩ := hrel
          have hsz := hK.size
          have hlt2 : (L ++ List.replicate t 0).length = L.length + t := by simp
          rw [hlt2] at hO
          obtain ⟨vb, vcap2, rfl⟩ := own_shape hO
          obtain ⟨mm, HMM⟩ : ∃ m, Hid (m = L.length) := ⟨_, rfl⟩
          rw [← HMM.out] at hO ht hl2 ⊢
          by_cases hc : mm + t ≤ nk
          · have c1 : (mm : Int) + (t : Int) ≤ (nk : Int) := by omega
            have c2 : decide (mm + t ≤ nk) = true := decide_eq_true hc
            go_wp2_with (first | (at_builtin; refine wpList_append_own _ rfl _ _ 27 rfl w.heap.size 3 i0 (.int .i64 0) 1 8 Tryz.underlying27 hi0 hz0 hz1 hz2 rfl (by decide) _ _ _ rfl (hO.alloc _) ⟨_, 0, none⟩ 1 1 [.int .i64 0] rfl rfl ?c1 ?c2 ?c3 ?c4 ?c5 ?_))
            case c1 => exact one_new _ _ (by simp) _ _
            case c2 => simp [Value.oneCell']
            case c3 => unfold maxLen; omega
            case c4 => omega
            case c5 => first | omega | (simp; omega)
            intro v' w4 hO5 hgr _
            have hK4 : Kept w w4 := (hK.alloc _).grew hgr (hO.alloc _) (Nat.le_refl _)
            have hO6 : w4.ownsRow w.heap.size 3 1 v' (L ++ List.replicate (t + 1) 0).length (nats (L ++ List.replicate (t + 1) 0)) := by
              rw [show L ++ List.replicate (t + 1) 0 = (L ++ List.replicate t 0) ++ [0] by rw [rep_snoc, List.append_assoc], nats_snoc, List.length_append, hlt2, ← HMM.out]
              exact hO5
            clear hO5 hgr hO hK
            go_wp2_with fail
            go_roundg (nk + 1 - mm - (t + 1))
            case measure => have hm := HMM.out; omega
            case rel => exact ⟨t + 1, by have hm := HMM.out; omega, by have hm := HMM.out; omega, hK4, hO6⟩
          · have c1 : ¬ (mm : Int) + (t : Int) ≤ (nk : Int) := by omega
            have c2 : decide (mm + t ≤ nk) = false := decide_eq_false hc
            have ht0 : List.replicate (nk + 1 - L.length) 0 = List.replicate t 0 := by rw [← HMM.out]; congr 1; omega
            have hgl : L ++ List.replicate t 0 = growL L nk := by unfold growL; rw [ht0]
            rw [hgl] at hO
            obtain ⟨gg, rfl⟩ : ∃ gg, vb = some ⟨gg, 0, none⟩ := by
              rcases hO.2 with ⟨e, e2⟩ | ⟨g', c', cur, e, _⟩
              · exfalso; omega
              · cases e; exact ⟨g', rfl⟩
            have hgb : w.heap.size ≤ gg := by have := (hO.lt gg rfl).1; omega
            have hx := growL_get L nk nk
            have hvk := hv2 nk
            have hcl := hO.cellAt nk (by omega)
            have hgn : (nats (growL L nk))[nk]? = some (.int .i64 ((L.getD nk 0 : Nat) : Int)) := by
              rw [nats_get (by rw [growL_len, ← HMM.out]; omega), hx]
            rw [hgn] at hcl
            have hfz := hO.frozenAt nk
            obtain ⟨x, HX⟩ : ∃ x, Hid (x = L.getD nk 0) := ⟨_, rfl⟩
            rw [← HX.out] at hcl hvk
            have hwx : IntKind.i64.wrap ((x : Int) + 1) = (x : Int) + 1 := IntWalk.i64_in _ (by omega)
            have hsto := hO.stored nk (.int .i64 ((x + 1 : Nat) : Int))
            rw [nats_set, show x + 1 = (growL L nk).getD nk 0 + 1 by rw [hx, HX.out]] at hsto
            have hOf : (wr.setCell ⟨gg, nk, none⟩ (.int .i64 ((x : Int) + 1))).ownsRow w.heap.size 3 1 (.slice (some ⟨gg, 0, none⟩) (mm + t) vcap2) (rgs F n (k + 1)).length (nats (rgs F n (k + 1))) := by
              rw [hfin.out]
              have e1 : (bump L nk).length = mm + t := by rw [bump_len, ← HMM.out]; omega
              rw [e1]
              have e2 : (((growL L nk).getD nk 0 + 1 : Nat) : Int) = (x : Int) + 1 := by rw [hx, ← HX.out]; rfl
              rw [e2] at hsto
              exact hsto.1
            have hKf : Kept w (wr.setCell ⟨gg, nk, none⟩ (.int .i64 ((x : Int) + 1))) := hK.setCell (p := ⟨gg, nk, none⟩) hgb _
            have b0 : (0 : Int) ≤ (nk : Int) := by omega
            have b1 : (nk : Int) < (mm : Int) + (t : Int) := by omega
            have b2 : nk < mm + t := by omega
            clear hsto hgn hx hO hK HX hgl ht0
            go_wp2_with fail
            go_roundg (N - (k + 1))
            case measure => omega
            case rel => exact ⟨k + 1, by omega, rfl, by first | rfl | go_num, hKf, hOf⟩
    · obtain rfl : k = N := by omega
      go_wp2_with fail
      go_ret
      exact ⟨_, rfl, NatsAt.of_own hO, hK⟩
end Go.Proofs.YtlnlddnjalfamaaGreatDoor
