/-
  The reference's Members, IsGroup, Group.
  The reference's Group.
-/
import Derived.Test.YtlnlddnjalfamaaGreatDoorLg
import Derived.Test.YtlnlddnjalfamaaGreatDoorIl
import Derived.Test.YtlnlddnjalfamaaGreatDoorJc
import Derived.BigQuiet
namespace Go.Proofs.YtlnlddnjalfamaaGreatDoor
open Go.RowKit Go.Deep

theorem and1_i64 (s : Nat) (hs : s < 9223372036854775808) : bits .and .i64 (s : Int) 1 = ((s % 2 : Nat) : Int) := by
  show IntKind.i64.wrap ((BitVec.ofInt 64 (s : Int) &&& BitVec.ofInt 64 1).toNat : Int) = _
  rw [BitVec.toNat_and, of64 s (by omega), show (BitVec.ofInt 64 1).toNat = 1 from rfl, Nat.and_one_is_mod]
  exact IntWalk.i64_in _ (by omega)
def MembersPost (w : World) (l : List Nat) (e : Ending) (w' : World) : Prop := ∃ v, e = .returned v ∧ w'.ownsRow w.heap.size 3 1 v l.length (nats l) ∧ Kept w w'
set_option maxRecDepth 100000 in
set_option maxHeartbeats 4000000 in
theorem members_any (w : World) (s n : Nat) (hs : s < 2 ^ n) (hn : n ≤ 14) : Calls Tryz.prog 52 #[.int .i64 s] w (MembersPost w (horsesL s n)) := by
  obtain ⟨i0, hi0, hz0, hz1, hz2⟩ := info_parts Tryz.info3
  have hp : 2 ^ n ≤ 2 ^ 14 := Nat.pow_le_pow_right (by omega) hn
  have hs15 : s < 16384 := by omega
  have hend : Hid (∀ i, i ≤ n → s / 2 ^ i = 0 → horsesL s i = horsesL s n) := fun i hi h0 => by
    obtain ⟨m, rfl⟩ : ∃ m, n = i + m := ⟨n - i, by omega⟩
    clear hi hs hn hp
    induction m with
    | zero => rfl
    | succ m ih =>
      rw [ih, ← Nat.add_assoc, horsesL_succ]
      have : s.testBit (i + m) = false := by
        have hlt : s < 2 ^ i := by
          rcases Nat.lt_or_ge s (2 ^ i) with h | h
          · exact h
          · have := Nat.div_pos h (Nat.pow_pos (by omega)); omega
        exact Nat.testBit_lt_two_pow (Nat.lt_of_lt_of_le hlt (Nat.pow_le_pow_right (by omega) (by omega)))
      rw [this]
      simp
  have hst := Lib.hid (fun i => horsesL_succ s i)
  have hlt : Hid (∀ i, 0 < s / 2 ^ i → i < n) := fun i h => by
    rcases Nat.lt_or_ge i n with h1 | h1
    · exact h1
    · have : s / 2 ^ i = 0 := Nat.div_eq_of_lt (Nat.lt_of_lt_of_le hs (Nat.pow_le_pow_right (by omega) h1))
      omega
  clear hs hp
  go_enter Tryz.func52, Tryz.ntmps52
  go_wp2_with fail
  go_loopg [3, 4] n (fun q s3 s4 wr => ∃ i : Nat, i ≤ n ∧ q = n - i ∧ s4 = .int .i64 i ∧ Kept w wr ∧ wr.ownsRow w.heap.size 3 1 s3 (horsesL s i).length (nats (horsesL s i)))
  case atStart => exact ⟨0, Nat.zero_le _, rfl, by first | rfl | go_num, (Kept.refl w).alloc _, own_zeroP w w.heap.size 3 1 (Nat.le_refl _)⟩
  case round =>
    obtain ⟨i, hi, rfl, rfl, hK, hO⟩ := hrel
    have hsz := hK.size
    have hb := bit_div s i
    have hq : s / 2 ^ i < 16384 := Nat.lt_of_le_of_lt (Nat.div_le_self _ _) hs15
    have e1 := and1_i64 (s / 2 ^ i) (by omega)
    have e0 : ((s : Int) / 2 ^ i) = ((s / 2 ^ i : Nat) : Int) := by simp
    have hsi := hst.out i
    have hll : (horsesL s i).length ≤ i := by rw [horsesL_len]; exact cnt_le _ _
    obtain ⟨l, HL⟩ : ∃ l, Hid (l = horsesL s i) := ⟨_, rfl⟩
    rw [← HL.out] at hO hsi hll
    obtain ⟨va, vcap, rfl⟩ := own_shape hO
    obtain ⟨tb, HTB⟩ : ∃ tb, Hid (tb = s.testBit i) := ⟨_, rfl⟩
    rw [← HTB.out] at hb hsi
    have hpos := hlt.out i
    have hze := hend.out i hi
    obtain ⟨D, HD⟩ : ∃ D, Hid (D = s / 2 ^ i) := ⟨_, rfl⟩
    rw [← HD.out] at hb hq e1 e0 hpos hze
    obtain ⟨Q, HQ⟩ : ∃ q, Hid (q = D % 2) := ⟨_, rfl⟩
    rw [← HQ.out] at hb e1
    have e2 : ((Q : Int) == 1) = tb := by rw [hb]; exact nat_beq Q 1
    have e3 : bits .and .i64 ((s : Int) / 2 ^ i) 1 = (Q : Int) := by rw [e0]; exact e1
    clear HQ hb HTB HD
    have HZE := Lib.hid hze
    clear hze
    by_cases hD : 0 < D
    · have hin := hpos hD
      have d1 : (0 : Int) < (s : Int) / 2 ^ i := by rw [e0]; omega
      have d2 : (0 : Int) < (D : Int) := by omega
      clear hpos
      cases tb with
      | false =>
        have hN : Hid (horsesL s (i + 1) = l) := by show _ = _; rw [hsi]; simp
        clear hsi
        go_wp2_with fail
        go_roundg (n - (i + 1))
        case measure => omega
        case rel => exact ⟨i + 1, by omega, rfl, by first | rfl | go_num, hK, by rw [hN.out]; exact hO⟩
      | true =>
        have hN : Hid (horsesL s (i + 1) = l ++ [i]) := by show _ = _; rw [hsi]; simp
        clear hsi
        go_wp2_with (first | (at_builtin; refine wpList_append_own _ rfl _ _ 27 rfl w.heap.size 3 i0 (.int .i64 0) 1 8 Tryz.underlying27 hi0 hz0 hz1 hz2 rfl (by decide) _ _ _ rfl (hO.alloc _) ⟨_, 0, none⟩ 1 1 [.int .i64 (i : Int)] rfl rfl ?c1 ?c2 ?c3 ?c4 ?c5 ?_))
        case c1 => exact one_new _ _ (by simp) _ _
        case c2 => simp [Value.oneCell']
        case c3 => unfold maxLen; omega
        case c4 => omega
        case c5 => first | omega | (simp; omega)
        intro v' w2 hO3 hgr _
        have hK2 : Kept w w2 := (hK.alloc _).grew hgr (hO.alloc _) (Nat.le_refl _)
        have hO4 : w2.ownsRow w.heap.size 3 1 v' (horsesL s (i + 1)).length (nats (horsesL s (i + 1))) := by
          rw [hN.out, nats_snoc]
          simpa using hO3
        clear hO3 hgr hO hK
        go_wp2_with fail
        go_roundg (n - (i + 1))
        case measure => omega
        case rel => exact ⟨i + 1, by omega, rfl, by first | rfl | go_num, hK2, hO4⟩
    · have hD0 : D = 0 := by omega
      have hfin := HZE.out hD0
      have hOf : wr.ownsRow w.heap.size 3 1 (.slice va l.length vcap) (horsesL s n).length (nats (horsesL s n)) := by
        rw [← hfin, ← HL.out]
        exact hO
      have d1 : ¬ (0 : Int) < (s : Int) / 2 ^ i := by rw [e0]; omega
      have d2 : (s : Int) / 2 ^ i = 0 := by rw [e0]; omega
      clear hpos hsi hfin e3 e1 e0 e2
      go_wp2_with fail
      go_ret
      exact ⟨_, rfl, hOf, hK⟩
set_option maxRecDepth 100000 in
set_option maxHeartbeats 8000000 in
theorem isGroup_any (w : World) (v lv : Value) (n : Nat) (F : Nat → Nat → Bool) (l : List Nat) (hG : GridAt w v n F) (hL : NatsAt w lv l) (hb : ∀ a, a < l.length → l.getD a 0 < n) (hl : l.length ≤ 14) :
    Calls Tryz.prog 40 #[v, lv] w fun e w' => e = .returned (.bool (grpB F l l.length)) ∧ Quiet w w' := by
  obtain ⟨g, gcap, R, rfl, hG⟩ := hG
  obtain ⟨m, HM⟩ : ∃ m, Hid (m = l.length) := ⟨_, rfl⟩
  have hI : IntsAt w lv m (fun a => ((l.getD a 0 : Nat) : Int)) := by rw [HM.out]; exact hL
  rw [← HM.out] at hb hl ⊢
  obtain ⟨a, b, o, cap, rfl, ha, hc⟩ := hI
  have HC := Lib.hid hc
  have HB := Lib.hid hb
  obtain ⟨gb, HGB⟩ : ∃ gb, Hid (gb = grpB F l m) := ⟨_, rfl⟩
  have hall : Hid (gb = allN (fun i => allN (fun j => F (l.getD i 0) (l.getD j 0)) i) m) := by
    rw [HGB.out]
    exact rfl
  rw [← HGB.out]
  clear hc hb hL HM HGB
  go_enter Tryz.func40, Tryz.ntmps40
  go_wp2_with fail
  go_loopg [5] m (fun q s5 wr => ∃ i : Nat, i ≤ m ∧ q = m - i ∧ s5 = .int .i64 i ∧ Quiet w wr ∧ Hid (allN (fun i => allN (fun j => F (l.getD i 0) (l.getD j 0)) i) i = true))
  case atStart => exact ⟨0, Nat.zero_le _, rfl, by first | rfl | go_num, Quiet.refl _, rfl⟩
  case round =>
    obtain ⟨i, hi, rfl, rfl, hQ, hA⟩ := hrel
    by_cases hlt : i < m
    · obtain rfl := ha (by omega)
      have s1 : (i : Int) < (m : Int) := by omega
      have hci := HC.out i hlt
      have hxi := HB.out i hlt
      have hno : Hid (∀ j, j < i → F (l.getD i 0) (l.getD j 0) = false → gb = false) := fun j hj h => by
        rw [hall.out]
        exact allN_false hlt (allN_false hj h)
      have hyes : Hid (allN (fun j => F (l.getD i 0) (l.getD j 0)) i = true → allN (fun i => allN (fun j => F (l.getD i 0) (l.getD j 0)) i) (i + 1) = true) := fun h => allN_step hA.out h
      obtain ⟨x, HX⟩ : ∃ x, Hid (x = l.getD i 0) := ⟨_, rfl⟩
      rw [← HX.out] at hci hxi hno hyes
      clear HX hA
      go_wp2_with fail
      go_loopg [6] i (fun q s6 wr => ∃ j : Nat, j ≤ i ∧ q = i - j ∧ s6 = .int .i64 j ∧ Quiet w wr ∧ Hid (allN (fun j => F x (l.getD j 0)) j = true))
      case atStart => exact ⟨0, Nat.zero_le _, rfl, by first | rfl | go_num, hQ, rfl⟩
      case round =>
        clear hQ
        obtain ⟨j, hj, rfl, rfl, hQ, hA⟩ := hrel
        by_cases hlt2 : j < i
        · have s2 : (j : Int) < (i : Int) := by omega
          have s3 : (j : Int) < (m : Int) := by omega
          have a0 : (0 : Int) ≤ (j : Int) := by omega
          have a1 : (0 : Int) ≤ (i : Int) := by omega
          have hcj := HC.out j (by omega)
          have hyj := HB.out j (by omega)
          have hno2 := Lib.hid (hno.out j hlt2)
          have hst : Hid (F x (l.getD j 0) = true → allN (fun j => F x (l.getD j 0)) (j + 1) = true) := fun h => allN_step hA.out h
          obtain ⟨y, HY⟩ : ∃ x, Hid (x = l.getD j 0) := ⟨_, rfl⟩
          rw [← HY.out] at hcj hyj hno2 hst
          have hG2 := hG.kept hQ.kept
          have t0 := hQ.kept.cellSome hci
          have t1 := hQ.kept.cellSome hcj
          have u0 := hG2.sl x hxi
          have y0 := (hG2.rw x hxi).cell (i := y) hyj
          have b0 : (0 : Int) ≤ (x : Int) := by omega
          have b1 : (x : Int) < (n : Int) := by omega
          have b2 : (0 : Int) ≤ (y : Int) := by omega
          have b3 : (y : Int) < (n : Int) := by omega
          simp only [slV] at u0
          generalize R x = rx at *
          obtain ⟨fb, HFB⟩ : ∃ b, Hid (b = F x y) := ⟨_, rfl⟩
          rw [← HFB.out] at y0 hno2 hst
          clear HFB hcj hG2
          cases fb with
          | false =>
            have hg0 := hno2.out rfl
            subst hg0
            clear hall hno hno2 hst
            go_wp2_with fail
            go_quiet (fail)
            go_wp2_with fail
            go_ret
            exact ⟨rfl, by obtain ⟨n1, rfl⟩ := hQ; exact ⟨n1 + nq, by simp⟩⟩
          | true =>
            have hA2 := Lib.hid (hst.out rfl)
            clear hno2 hst hA
            go_wp2_with fail
            go_quiet (fail)
            go_wp2_with fail
            go_roundg (i - (j + 1))
            case measure => omega
            case rel => exact ⟨j + 1, by omega, rfl, by first | rfl | go_num, by obtain ⟨n1, rfl⟩ := hQ; exact ⟨n1 + nq, by simp⟩, hA2.out⟩
        · obtain rfl : j = i := by omega
          have hA2 := Lib.hid (hyes.out hA.out)
          clear hno hyes hA
          go_wp2_with fail
          go_roundg (m - (j + 1))
          case measure => omega
          case rel => exact ⟨j + 1, by omega, rfl, by first | rfl | go_num, hQ, hA2.out⟩
    · obtain rfl : i = m := by omega
      have hg1 : gb = true := by rw [hall.out]; exact hA.out
      subst hg1
      clear hall hA
      go_wp2_with fail
      go_ret
      exact ⟨rfl, hQ⟩
end Go.Proofs.YtlnlddnjalfamaaGreatDoor
namespace Go.Proofs.YtlnlddnjalfamaaGreatDoor
open Go.RowKit Go.Deep

theorem rbest_lt (F : Nat → Nat → Bool) (n : Nat) : ∀ k, k ≤ 2 ^ n → rbest F n k < 2 ^ n := by
  intro k
  induction k with
  | zero => intro _; exact Nat.pow_pos (by omega)
  | succ k ih =>
    intro hk
    simp only [rbest]
    split
    · omega
    · exact ih (by omega)
theorem horses_lt (s n : Nat) : (horsesL s n).length ≤ n := by rw [horsesL_len]; exact cnt_le _ _
theorem horses_zero (n : Nat) : horsesL 0 n = [] := by
  unfold horsesL
  rw [List.filter_eq_nil_iff]
  intro a _
  simp
def RGroupPost (w : World) (l : List Nat) (e : Ending) (w' : World) : Prop := ∃ a cap, e = .returned (.slice a l.length cap) ∧ NatsAt w' (.slice a l.length cap) l ∧ Kept w w'
set_option maxRecDepth 100000 in
set_option maxHeartbeats 8000000 in
theorem refGroup_any (w : World) (v : Value) (n : Nat) (F : Nat → Nat → Bool) (hG : GridAt w v n F) (hn : n ≤ 9) :
    Calls Tryz.prog 18 #[v] w (RGroupPost w (horsesL (rbest F n (2 ^ n)) n)) := by
  have hp9 : 2 ^ n ≤ 2 ^ 9 := Nat.pow_le_pow_right (by omega) hn
  have hp0 : 0 < 2 ^ n := Nat.pow_pos (by omega)
  have hrl := Lib.hid (rbest_lt F n)
  have hmem := Lib.hid (fun W s (h : s < 2 ^ n) => members_any W s n h (by omega))
  have hgrp := Lib.hid (fun W lv s (h1 : GridAt W v n F) (h2 : NatsAt W lv (horsesL s n)) => isGroup_any W v lv n F (horsesL s n) h1 h2 (fun a ha => (filt_get ha).1) (by have := horses_lt s n; omega))
  have hbef := Lib.hid (fun W va vb la lb (h1 : NatsAt W va la) (h2 : NatsAt W vb lb) (hl1 : la.length ≤ 1000) (hl2 : lb.length ≤ 1000) => before_any W va vb la.length lb.length (lI la) (lI lb) h1 h2 (by omega) (by omega))
  have hrb : Hid (∀ k, rbest F n (k + 1) = if grpB F (horsesL k n) (horsesL k n).length && betB n k (rbest F n k) then k else rbest F n k) := fun k => rfl
  have hbt : Hid (∀ k m, betB n k m = (decide ((horsesL m n).length < (horsesL k n).length) || (decide ((horsesL k n).length = (horsesL m n).length) && before (horsesL k n).length (lI (horsesL k n)) (horsesL m n).length (lI (horsesL m n))))) := fun k m => rfl
  have hGr := hG
  obtain ⟨g, gcap, R, rfl, hG0⟩ := hG
  clear hG0
  obtain ⟨N, HN⟩ : ∃ N : Nat, Hid (N = 2 ^ n) := ⟨_, rfl⟩
  have hshl : (2 : Int) ^ n = (N : Int) := by rw [HN.out]; exact two_pow_int n
  rw [← HN.out] at hp9 hp0 hrl hmem ⊢
  have hwN : IntKind.i64.wrap (N : Int) = N := IntWalk.i64_in _ (by omega)
  have hN9 : N ≤ 512 := by omega
  clear hp9
  have hz : Hid (horsesL (rbest F n 0) n = []) := horses_zero n
  go_enter Tryz.func18, Tryz.ntmps18
  go_wp2_with fail
  go_loopg [3, 4] N (fun q s3 s4 wr => ∃ k : Nat, k ≤ N ∧ q = N - k ∧ s4 = .int .i64 k ∧ Kept w wr ∧ ∃ a cap, s3 = .slice a (horsesL (rbest F n k) n).length cap ∧ NatsAt wr (.slice a (horsesL (rbest F n k) n).length cap) (horsesL (rbest F n k) n))
  case atStart => exact ⟨0, Nat.zero_le _, rfl, by first | rfl | go_num, (Kept.refl w).alloc _, some ⟨w.heap.size, 0, none⟩, 0, by rw [hz.out]; rfl, by rw [hz.out]; exact ⟨_, 0, 0, _, rfl, fun h => absurd h (by simp), fun i hi => absurd hi (by simp)⟩⟩
  case round =>
    obtain ⟨k, hk, rfl, rfl, hK, a, cap, rfl, hNt⟩ := hrel
    by_cases hlt : k < N
    · have s1 : (k : Int) < (N : Int) := by omega
      have hM := Lib.hid (hmem.out wr k hlt)
      unfold MembersPost at hM
      have hG2 := hGr.kept hK
      have hst := hrb.out k
      have hbk := hbt.out k (rbest F n k)
      have hl1 := horses_lt k n
      have hl2 := horses_lt (rbest F n k) n
      have GK := Lib.hid (fun W lv h1 h2 => hgrp.out W lv k h1 h2)
      obtain ⟨lk, HLK⟩ : ∃ l, Hid (l = horsesL k n) := ⟨_, rfl⟩
      obtain ⟨lb, HLB⟩ : ∃ l, Hid (l = horsesL (rbest F n k) n) := ⟨_, rfl⟩
      rw [← HLK.out] at hM hst hbk hl1 GK
      rw [← HLB.out] at hbk hl2 hNt ⊢
      have BF := Lib.hid (fun W va vb h1 h2 => hbef.out W va vb lk lb h1 h2 (by omega) (by omega))
      obtain ⟨gb, HGB⟩ : ∃ b, Hid (b = grpB F lk lk.length) := ⟨_, rfl⟩
      rw [← HGB.out] at hst GK
      obtain ⟨bb, HBB⟩ : ∃ b, Hid (b = before lk.length (lI lk) lb.length (lI lb)) := ⟨_, rfl⟩
      rw [← HBB.out] at hbk BF
      obtain ⟨nk, HNK⟩ : ∃ m, Hid (m = lk.length) := ⟨_, rfl⟩
      obtain ⟨nb, HNB⟩ : ∃ m, Hid (m = lb.length) := ⟨_, rfl⟩
      have hM2 : Hid (Calls Tryz.prog 52 #[.int .i64 k] wr fun e w' => ∃ u uc, e = .returned (.slice u nk uc) ∧ NatsAt w' (.slice u nk uc) lk ∧ Kept wr w') := hM.out.mono (by
        rintro e w' ⟨v, rfl, hO, hk'⟩
        have hv := NatsAt.of_own hO
        obtain ⟨u, uc, rfl⟩ := own_shape hO
        rw [HNK.out]
        exact ⟨_, _, rfl, hv, hk'⟩)
      have hNt2 : NatsAt wr (.slice a nb cap) lb := by rw [HNB.out]; exact hNt
      rw [← HNK.out, ← HNB.out] at hbk
      rw [← HNB.out]
      have hyes : Hid (gb = true → betB n k (rbest F n k) = true → horsesL (rbest F n (k + 1)) n = lk) := fun h1 h2 => by rw [hst, h1, h2, HLK.out]; rfl
      have hno : Hid ((gb && betB n k (rbest F n k)) = false → horsesL (rbest F n (k + 1)) n = lb) := fun h => by rw [hst, h, HLB.out]; rfl
      have hK0 := hK
      clear hM hst hNt HGB HBB hK
      cases gb with
      | false =>
        have hfin := Lib.hid (hno.out rfl)
        clear hyes hno hbk
        go_wp2_with (first | (go_at_call 52; refine hM2.out.mono ?_; clear hM2; rintro e w2 ⟨u, uc, rfl, hu, hk2⟩) | (go_at_call 40; refine (GK.out _ _ (hG2.kept hk2) hu).mono ?_; clear GK; rintro e w3 ⟨rfl, hq3⟩))
        go_roundg (N - (k + 1))
        case measure => omega
        case rel => exact ⟨k + 1, by omega, rfl, by first | rfl | go_num, (hK0.trans hk2).trans hq3.kept, _, _, by rw [hfin.out, ← HNB.out], by rw [hfin.out, ← HNB.out]; exact (NatsAt.kept hNt2 hk2).kept hq3.kept⟩
      | true =>
        rcases Nat.lt_trichotomy nk nb with hc | hc | hc
        · have hb0 : betB n k (rbest F n k) = false := by rw [hbk]; simp; omega
          have hfin := Lib.hid (hno.out (by rw [hb0]; rfl))
          have g1 : ¬ (nk : Int) > (nb : Int) := by omega
          have g2 : ¬ (nk : Int) = (nb : Int) := by omega
          have g3 : ((nk : Int) == (nb : Int)) = false := by rw [nat_beq]; simp; omega
          have g4 : decide (nb < nk) = false := decide_eq_false (by omega)
          clear hyes hno hbk hb0 hc
          go_wp2_with (first | (go_at_call 52; refine hM2.out.mono ?_; clear hM2; rintro e w2 ⟨u, uc, rfl, hu, hk2⟩) | (go_at_call 40; refine (GK.out _ _ (hG2.kept hk2) hu).mono ?_; clear GK; rintro e w3 ⟨rfl, hq3⟩))
          go_roundg (N - (k + 1))
          case measure => omega
          case rel => exact ⟨k + 1, by omega, rfl, by first | rfl | go_num, (hK0.trans hk2).trans hq3.kept, _, _, by rw [hfin.out, ← HNB.out], by rw [hfin.out, ← HNB.out]; exact (NatsAt.kept hNt2 hk2).kept hq3.kept⟩
        · have g1 : ¬ (nk : Int) > (nb : Int) := by omega
          have g3 : ((nk : Int) == (nb : Int)) = true := by rw [nat_beq]; simp [hc]
          have g4 : decide (nb < nk) = false := decide_eq_false (by omega)
          have hbb : betB n k (rbest F n k) = bb := by rw [hbk]; simp [hc]
          cases bb with
          | false =>
            have hfin := Lib.hid (hno.out (by rw [hbb]; rfl))
            clear hyes hno hbk hbb hc
            go_wp2_with (first | (go_at_call 52; refine hM2.out.mono ?_; clear hM2; rintro e w2 ⟨u, uc, rfl, hu, hk2⟩) | (go_at_call 40; refine (GK.out _ _ (hG2.kept hk2) hu).mono ?_; clear GK; rintro e w3 ⟨rfl, hq3⟩) | (go_at_call 51; refine (BF.out _ _ _ (NatsAt.kept hu hq3.kept) (NatsAt.kept (NatsAt.kept hNt2 hk2) hq3.kept)).mono ?_; clear BF; rintro e w4 ⟨rfl, hq4⟩))
            go_roundg (N - (k + 1))
            case measure => omega
            case rel => exact ⟨k + 1, by omega, rfl, by first | rfl | go_num, ((hK0.trans hk2).trans hq3.kept).trans hq4.kept, _, _, by rw [hfin.out, ← HNB.out], by rw [hfin.out, ← HNB.out]; exact ((NatsAt.kept hNt2 hk2).kept hq3.kept).kept hq4.kept⟩
          | true =>
            have hfin := Lib.hid (hyes.out rfl hbb)
            clear hyes hno hbk hbb hc
            go_wp2_with (first | (go_at_call 52; refine hM2.out.mono ?_; clear hM2; rintro e w2 ⟨u, uc, rfl, hu, hk2⟩) | (go_at_call 40; refine (GK.out _ _ (hG2.kept hk2) hu).mono ?_; clear GK; rintro e w3 ⟨rfl, hq3⟩) | (go_at_call 51; refine (BF.out _ _ _ (NatsAt.kept hu hq3.kept) (NatsAt.kept (NatsAt.kept hNt2 hk2) hq3.kept)).mono ?_; clear BF; rintro e w4 ⟨rfl, hq4⟩))
            go_roundg (N - (k + 1))
            case measure => omega
            case rel => exact ⟨k + 1, by omega, rfl, by first | rfl | go_num, ((hK0.trans hk2).trans hq3.kept).trans hq4.kept, _, _, by rw [hfin.out, ← HNK.out], by rw [hfin.out, ← HNK.out]; exact (NatsAt.kept hu hq3.kept).kept hq4.kept⟩
        · have hb0 : betB n k (rbest F n k) = true := by rw [hbk]; simp [hc]
          have hfin := Lib.hid (hyes.out rfl hb0)
          have g1 : (nk : Int) > (nb : Int) := by omega
          have g4 : decide (nb < nk) = true := decide_eq_true (by omega)
          clear hyes hno hbk hb0
          go_wp2_with (first | (go_at_call 52; refine hM2.out.mono ?_; clear hM2; rintro e w2 ⟨u, uc, rfl, hu, hk2⟩) | (go_at_call 40; refine (GK.out _ _ (hG2.kept hk2) hu).mono ?_; clear GK; rintro e w3 ⟨rfl, hq3⟩))
          go_roundg (N - (k + 1))
          case measure => omega
          case rel => exact ⟨k + 1, by omega, rfl, by first | rfl | go_num, (hK0.trans hk2).trans hq3.kept, _, _, by rw [hfin.out, ← HNK.out], by rw [hfin.out, ← HNK.out]; exact NatsAt.kept hu hq3.kept⟩
    · obtain rfl : k = N := by omega
      go_wp2_with fail
      go_ret
      exact ⟨_, _, rfl, hNt, hK⟩
end Go.Proofs.YtlnlddnjalfamaaGreatDoor
