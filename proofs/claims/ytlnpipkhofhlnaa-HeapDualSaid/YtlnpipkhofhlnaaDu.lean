/-
  The law HeapDual, walked.
-/
import Derived.Test.YtlnpipkhofhlnaaBa
import Derived.Test.YtlnpipkhofhlnaaFi
import Derived.Test.YtlnpipkhofhlnaaLi
import Derived.Test.YtlnpipkhofhlnaaLk
import Derived.Deep.QuietTactic
import Derived.BigQuiet
namespace Go.Proofs.Ytlnpipkhofhlnaa
open Go.RowKit Go.Deep

def remF (q : Nat) (Z : Nat → Int) : Nat → Int := fun i => if i < q then (Z i).tmod 1001 else 0
theorem remF_bd (q : Nat) (Z : Nat → Int) (i : Nat) : -1000 ≤ remF q Z i ∧ remF q Z i ≤ 1000 := by
  unfold remF
  have h1 := Int.lt_tmod_of_pos (Z i) (show (0 : Int) < 1001 by decide)
  have h2 := Int.tmod_lt_of_pos (Z i) (show (0 : Int) < 1001 by decide)
  split <;> omega
theorem new_one (W : World) (x : Value) (t : TypeId) : ∀ (k : Nat) (u : Value), [x][k]? = some u → (W.alloc (.cells #[x] t)).cell? ((⟨W.heap.size, 0, none⟩ : Addr).add k) = some u := fun k u h => by
  cases k with
  | zero => cases h; rw [add_at]; unfold World.cell?; dsimp only; rw [blk_alloc_new]; rfl
  | succ k => simp at h
theorem degree_v (w : World) (ev : Value) (n : Nat) (A B : Nat → Int) (v : Int) (d : Nat) (hd : d = deg A B n v) (hE : PairsAt w ev n A B) (hn : n ≤ 1000000) :
    Calls Try.prog 25 #[ev, .int .i64 v] w fun e w' => e = .returned (.int .i64 d) ∧ w = w' := by rw [hd]; exact degree_any w ev n A B v hE hn
set_option maxRecDepth 100000 in
set_option maxHeartbeats 8000000 in
theorem duals_any (w : World) (nn : Nat) (xa za : Option Addr) (q qcap zq zcap : Nat) (X Y : Nat → Nat) (Z : Nat → Int) (hnn : nn < 256) (hx : Bytes2At w (.slice xa q qcap) q X Y) (hX : ∀ i, X i < 256) (hY : ∀ i, Y i < 256) (hq : q ≤ maxLen)
    (hz : ShortsAt w (.slice za zq zcap) zq Z) (hZ : ∀ i, -32768 ≤ Z i ∧ Z i ≤ 32767) (hzq : zq ≤ maxLen) :
    Calls Try.prog 6 #[.agg #[.int .u8 nn, .slice xa q qcap], .slice za zq zcap] w (LivesPost w) := by
  have hK0 : Kept w (w.alloc (.cells #[.int .u8 nn, .slice xa q qcap] 47)) := (Kept.refl w).alloc _
  obtain ⟨i0, hi, hz0, hz1, hz2⟩ := info_parts Try.info3
  unfold maxLen at hzq
  go_enter Try.func6, Try.ntmps6
  go_wp2_with fail
  refine (made_any _ xa q qcap nn 8 X Y (hx.kept hK0) hX hY hq hnn (by omega) (by omega)).mono ?_
  rintro e w1 ⟨k, m, ea, ecap, A, B, rfl, hE1, hk1, hk2, hk8, hm19, hgood⟩
  obtain ⟨N, rfl⟩ : ∃ N, k = N + 1 := ⟨k - 1, by omega⟩
  have hK1 := hK0.trans hk1
  have hZ1 := CellsAt.kept hz hK1
  have hO0 := own_zero w1 w1.heap.size (Nat.le_refl _)
  have hK2 : Kept w1 (w1.alloc (.cells #[] 3)) := (Kept.refl w1).alloc _
  have hsz0 : w1.heap.size ≤ (w1.alloc (.cells #[] 3)).heap.size := by simp
  obtain ⟨ok, ⟨p, hpk⟩, _, hEd⟩ := good_ok hgood
  simp only [Int.toNat_natCast] at ok hpk hEd
  have hds := deg_sum hEd
  clear hK0 hk1 hx hX hY hz hEd
  obtain ⟨za', zb, zo, zcap', eZ, hza, hzc⟩ := hZ1
  cases eZ
  have HZC := Lib.hid hzc
  have HZ := Lib.hid hZ
  have HDS := Lib.hid hds
  clear hzc hZ hds
  go_wp2_with fail
  have hO1 : (w1.alloc (.cells #[] 3)).ownsRow w1.heap.size 3 1 (.slice (some ⟨w1.heap.size, 0, none⟩) 0 0) 0 (ints (remF zq Z) 0) := hO0
  clear hO0
  generalize w1.alloc (.cells #[] 3) = W0 at *
  go_loopg [7, 8] N (fun g lv s10 wr => ∃ t : Nat, t ≤ N ∧ g = N - t ∧ s10 = .int .i64 ((t : Int) + 1) ∧ Kept w1 wr ∧ wr.ownsRow w1.heap.size 3 1 lv t (ints (remF zq Z) t) ∧ w1.heap.size ≤ wr.heap.size)
  case atStart => exact ⟨0, by omega, by omega, rfl, hK2, hO1, hsz0⟩
  case round =>
    obtain ⟨t, htN, rfl, rfl, hK, hO, hsz⟩ := hrel
    clear hK2 hO1 hsz0
    obtain ⟨oa, ocap, rfl⟩ := own_shape hO
    have s3 : (0 : Int) ≤ (t : Int) := by omega
    by_cases hlt : t < N
    · by_cases htq : t < zq
      · obtain rfl := hza (by omega)
        have t1 := hK.cellSome (HZC.out t htq)
        have b1 := HZ.out t
        have s4 : (t : Int) < (zq : Int) := by omega
        have hbd := remF_bd zq Z t
        have hbf : remF zq Z t = (Z t).tmod 1001 := if_pos htq
        obtain ⟨zz, HZZ⟩ : ∃ zz, Hid (zz = Z t) := ⟨_, rfl⟩
        rw [← HZZ.out] at t1 b1 hbf
        rw [hbf] at hbd
        have HBF := Lib.hid hbf
        have hw1 : IntKind.i64.wrap zz = zz := IntWalk.i64_in _ (by omega)
        have hw2 : IntKind.i64.wrap (zz.tmod 1001) = zz.tmod 1001 := IntWalk.i64_in _ (by omega)
        clear hbf
        go_wp2_with (first | (at_builtin; refine wpList_append_own _ rfl _ _ 25 rfl w1.heap.size 3 i0 (.int .i64 0) 1 8 Try.underlying25 hi hz0 hz1 hz2 rfl (by decide) _ _ _ rfl (hO.alloc _) ⟨wr.heap.size, 0, none⟩ 1 1 [.int .i64 (zz.tmod 1001)] rfl rfl ?c1 ?c2 ?c3 ?c4 ?c5 ?_))
        case c2 => simp [Value.oneCell']
        case c3 => unfold maxLen; omega
        case c4 => omega
        case c5 => first | omega | (simp; omega)
        intro v' w2 hO3 hgr _
        have hX2 := grew_X hgr (hO.alloc (.cells #[.int .i64 (zz.tmod 1001)] 3))
        have hK2 : Kept w1 w2 := (hK.alloc _).step hX2 (fun i hi => hi)
        have hs2 : w1.heap.size ≤ w2.heap.size := Kept.size hK2
        have hO4 : w2.ownsRow w1.heap.size 3 1 v' (t + 1) (ints (remF zq Z) (t + 1)) := by
          rw [show ints (remF zq Z) (t + 1) = ints (remF zq Z) t ++ [.int .i64 (zz.tmod 1001)] by simp [ints, List.range_succ, HBF.out]]; exact hO3
        clear hO3 hX2 hgr hK hO hsz
        go_wp2_with fail
        go_roundg (N - (t + 1))
        case measure => omega
        case rel => exact ⟨t + 1, by omega, rfl, by go_num, hK2, hO4, hs2⟩
      · have s4 : ¬ (t : Int) < (zq : Int) := by omega
        have HBF : Hid (remF zq Z t = 0) := by show _ = _; exact if_neg htq
        go_wp2_with (first | (at_builtin; refine wpList_append_own _ rfl _ _ 25 rfl w1.heap.size 3 i0 (.int .i64 0) 1 8 Try.underlying25 hi hz0 hz1 hz2 rfl (by decide) _ _ _ rfl (hO.alloc _) ⟨wr.heap.size, 0, none⟩ 1 1 [.int .i64 0] rfl rfl ?d1 ?d2 ?d3 ?d4 ?d5 ?_))
        case d2 => simp [Value.oneCell']
        case d3 => unfold maxLen; omega
        case d4 => omega
        case d5 => first | omega | (simp; omega)
        intro v' w2 hO3 hgr _
        have hX2 := grew_X hgr (hO.alloc (.cells #[.int .i64 0] 3))
        have hK2 : Kept w1 w2 := (hK.alloc _).step hX2 (fun i hi => hi)
        have hs2 : w1.heap.size ≤ w2.heap.size := Kept.size hK2
        have hO4 : w2.ownsRow w1.heap.size 3 1 v' (t + 1) (ints (remF zq Z) (t + 1)) := by
          rw [show ints (remF zq Z) (t + 1) = ints (remF zq Z) t ++ [.int .i64 0] by simp [ints, List.range_succ, HBF.out]]; exact hO3
        clear hO3 hX2 hgr hK hO hsz
        go_wp2_with fail
        go_roundg (N - (t + 1))
        case measure => omega
        case rel => exact ⟨t + 1, by omega, rfl, by go_num, hK2, hO4, hs2⟩
    · obtain rfl : t = N := by omega
      have hM := ints_at hO
      have hEr := hE1.kept hK
      have hKr := hK1.trans hK
      clear hK1 hE1 hO hK hsz
      go_wp2_with fail
      refine (Low_good wr t _ _ A B m _ hEr hM (by omega) hgood (fun i _ => remF_bd zq Z i)).mono ?_
      rintro e w2 ⟨r, f, x, rfl, hk2, hL2, _, _, _, hnf, hst, hbd⟩
      have hE2 := hEr.kept hk2
      have hKw2 := hKr.trans hk2
      have hyes := isLow_yes ok hnf (fun i hi => ⟨(hbd i hi).1, (stable_bd ok hst i hi).1⟩)
      have hd20 : ∀ i, i < t → (degN A B m (i + 1) : Int) ≤ 20 := fun i hi => by have := ok.D20 (i + 1) (by omega); omega
      have hsb : ∀ i, i < t → f (i + 1) < degN A B m (i + 1) := fun i hi => (stable_bd ok hst i hi).1
      have hlb : ∀ i, i < t → 0 ≤ topI (degN A B m) i - f (i + 1) ∧ topI (degN A B m) i - f (i + 1) ≤ 1000 := fun i hi => by
        have h1 := hbd i hi
        have h2 := hd20 i hi
        have h3 := hsb i hi
        unfold topI
        omega
      have c1 : (allN (fun i => decide (0 ≤ topI (degN A B m) i - f (i + 1)) && decide (topI (degN A B m) i - f (i + 1) ≤ 1000)) t && decide ((t : Int) = ((t : Int) + 1) - 1)) = true := by
        rw [Bool.and_eq_true]
        refine ⟨allN_true.2 (fun i hi => ?_), by simp⟩
        have h1 := hlb i hi
        rw [decide_eq_true h1.1, decide_eq_true h1.2]; rfl
      have HC1 := Lib.hid c1
      have HYES := Lib.hid hyes
      have HLB := Lib.hid hlb
      have HD20 := Lib.hid hd20
      have HSB := Lib.hid hsb
      have HBD := Lib.hid hbd
      clear hEr hKr hk2 hM c1 hyes hlb hd20 hsb hbd
      go_wp2_with fail
      refine (heaps_any _ _ ((t : Int) + 1) 0 t _ hL2 (by omega) (by omega) (by omega)).mono ?_
      rw [HC1.out]
      rintro e w3 ⟨rfl, hq3⟩
      have hE3 := hE2.kept hq3.kept
      have hL3 := hL2.kept hq3.kept
      have hK3 := hKw2.trans hq3.kept
      clear hE2 hL2 hKw2 hq3
      go_wp2_with fail
      refine (isLow_any w3 _ _ t m A B _ hE3 hL3 (by omega) (by omega) (by omega) (fun i hi => by have := HLB.out i hi; omega)).mono ?_
      rw [HYES.out]
      rintro e w4 ⟨rfl, hq4⟩
      have hE4 := hE3.kept hq4.kept
      have hL4 := hL3.kept hq4.kept
      have hK4 := hK3.trans hq4.kept
      clear hE3 hL3 hK3 hq4
      go_wp2_with fail
      refine (lives_any _).mono ?_
      rintro e w5 ⟨rfl, hk5⟩
      have hE5 := hE4.kept hk5
      have hL5 := hL4.kept hk5
      have hK5 := hK4.trans hk5
      have hO0 := own_zero w5 w5.heap.size (Nat.le_refl _)
      have hK6 : Kept w5 (w5.alloc (.cells #[] 3)) := (Kept.refl w5).alloc _
      have hE6 := hE5.kept hK6
      have hsz0 : w5.heap.size ≤ (w5.alloc (.cells #[] 3)).heap.size := by simp
      have hlv := lev_nonneg ok hnf (m := m) HDS.out
      obtain ⟨d0, HD0⟩ : ∃ d0, Hid (d0 = deg A B m 0) := ⟨_, rfl⟩
      have hd0 : d0 ≤ 19 := by rw [HD0.out]; exact Nat.le_trans (cnt_le _ _) hm19
      have hlv2 : 0 ≤ (d0 : Int) - m + sumZ (fun i => f (i + 1)) t := by rw [HD0.out]; exact hlv
      have HLV := Lib.hid hlv2
      have hsum : ∀ u, u ≤ t → 0 ≤ sumZ (fun i => f (i + 1)) u ∧ sumZ (fun i => f (i + 1)) u ≤ 19 * (u : Int) := fun u hu => ⟨sumZ_nonneg (fun i hi => (HBD.out i (by omega)).1), sumZ_bound (fun i hi => (HBD.out i (by omega)).2)⟩
      have HSUM := Lib.hid hsum
      have hs0 : IntKind.i64.wrap ((d0 : Int) - (m : Int)) = (d0 : Int) - m := IntWalk.i64_in _ (by omega)
      clear hE4 hL4 hK4 hk5 hlv hlv2 hsum
      go_wp2_with fail
      refine (degree_v _ _ m A B 0 d0 HD0.out hE6 (by omega)).mono ?_
      rintro e w6 ⟨rfl, rfl⟩
      go_wp2_with fail
      have hO1 : (w5.alloc (.cells #[] 3)).ownsRow w5.heap.size 3 1 (.slice (some ⟨w5.heap.size, 0, none⟩) 0 0) 0 (ints (fun i => f (i + 1)) 0) := hO0
      clear hO0 hE6
      generalize w5.alloc (.cells #[] 3) = W6 at *
      go_loopg [12, 13, 14] t (fun g lv s13 s14 wr => ∃ u : Nat, u ≤ t ∧ g = t - u ∧ s13 = .int .i64 ((d0 : Int) - m + sumZ (fun i => f (i + 1)) u) ∧ s14 = .int .i64 ((u : Int) + 1) ∧ Kept w5 wr ∧ wr.ownsRow w5.heap.size 3 1 lv u (ints (fun i => f (i + 1)) u) ∧ w5.heap.size ≤ wr.heap.size)
      case atStart => exact ⟨0, by omega, by omega, by simp [sumZ], rfl, hK6, hO1, hsz0⟩
      case round =>
        obtain ⟨u, hut, rfl, rfl, rfl, hK, hO, hsz⟩ := hrel
        clear hK6 hO1 hsz0
        obtain ⟨oa, ocap, rfl⟩ := own_shape hO
        have hE := hE5.kept hK
        have hL := hL5.kept hK
        have s3 : (0 : Int) ≤ (u : Int) := by omega
        obtain ⟨sm, HSM⟩ : ∃ sm, Hid (sm = sumZ (fun i => f (i + 1)) u) := ⟨_, rfl⟩
        have hsm := HSUM.out u hut
        rw [← HSM.out] at hsm ⊢
        by_cases hlt : u < t
        · obtain ⟨_, lb, lo, _, eL, hla, hlc⟩ := hL
          cases eL
          cases (hla (by omega))
          have t1 : wr.cell? ⟨r, 0 + u, none⟩ = some (.int .i64 (topI (degN A B m) u - f (u + 1))) := hlc u hlt
          rw [Nat.zero_add] at t1
          obtain ⟨dv, HDV⟩ : ∃ dv, Hid (dv = deg A B m ((u : Int) + 1)) := ⟨_, rfl⟩
          have hlb := HLB.out u hlt
          have hfb := HBD.out u hlt
          have hdd : (dv : Int) - 1 = topI (degN A B m) u := by rw [HDV.out]; rfl
          have hdv : dv ≤ 19 := by rw [HDV.out]; exact Nat.le_trans (cnt_le _ _) hm19
          obtain ⟨lw, HLW⟩ : ∃ lw, Hid (lw = topI (degN A B m) u - f (u + 1)) := ⟨_, rfl⟩
          obtain ⟨fv, HFV⟩ : ∃ fv, Hid (fv = f (u + 1)) := ⟨_, rfl⟩
          rw [← HLW.out] at t1 hlb
          rw [← HFV.out] at hfb
          have he1 : (dv : Int) - 1 - lw = fv := by rw [hdd, HLW.out, HFV.out]; omega
          have HE1 := Lib.hid he1
          have HSS : Hid (sumZ (fun i => f (i + 1)) (u + 1) = sm + fv) := by rw [HSM.out, HFV.out]; rfl
          have s4 : (u : Int) < (t : Int) := by omega
          clear hdd he1 hlc hla
          go_wp2_with fail
          go_quiet ((go_at_call 25; exact quietS (degree_v _ _ m A B _ dv HDV.out (hE.dN _) (by omega))))
          rw [HE1.out]
          have hK3 : Kept w5 (wr.drewN nq) := hK.drewN _
          have hO3 : (wr.drewN nq).ownsRow w5.heap.size 3 1 (.slice oa u ocap) u (ints (fun i => f (i + 1)) u) := own_kept hO ((Kept.refl wr).drewN _)
          have hsz3 : w5.heap.size ≤ (wr.drewN nq).heap.size := Kept.size hK3
          clear hE t1 hK hO hsz
          generalize wr.drewN nq = W7 at *
          have s5 : IntKind.i64.wrap ((d0 : Int) - m + sm + fv) = (d0 : Int) - m + sm + fv := IntWalk.i64_in _ (by omega)
          go_wp2_with (first | (at_builtin; refine wpList_append_own _ rfl _ _ 25 rfl w5.heap.size 3 i0 (.int .i64 0) 1 8 Try.underlying25 hi hz0 hz1 hz2 rfl (by decide) _ _ _ rfl (hO3.alloc _) ⟨W7.heap.size, 0, none⟩ 1 1 [.int .i64 fv] rfl rfl ?gg1 ?gg2 ?gg3 ?gg4 ?gg5 ?_))
          case gg1 => exact new_one _ _ _
          case gg2 => simp [Value.oneCell']
          case gg3 => unfold maxLen; omega
          case gg4 => omega
          case gg5 => first | omega | (simp; omega)
          intro v' w8 hO8 hgr _
          have hX2 := grew_X hgr (hO3.alloc (.cells #[.int .i64 fv] 3))
          have hK8 : Kept w5 w8 := (hK3.alloc _).step hX2 (fun i hi => hi)
          have hs8 : w5.heap.size ≤ w8.heap.size := Kept.size hK8
          have hO9 : w8.ownsRow w5.heap.size 3 1 v' (u + 1) (ints (fun i => f (i + 1)) (u + 1)) := by
            rw [show ints (fun i => f (i + 1)) (u + 1) = ints (fun i => f (i + 1)) u ++ [.int .i64 fv] by simp [ints, List.range_succ, HFV.out]]; exact hO8
          clear hO8 hX2 hgr hK3 hO3 hsz3
          go_wp2_with fail
          go_roundg (t - (u + 1))
          case measure => omega
          case rel => exact ⟨u + 1, by omega, rfl, by rw [HSS.out]; go_num, by go_num, hK8, hO9, hs8⟩
        · obtain rfl : u = t := by omega
          have hM := ints_at hO
          have hlv := HLV.out
          rw [← HSM.out] at hlv
          have hKr := hK5.trans hK
          have hst2 : stableB (degN A B m) (fun i => f (i + 1)) (u + 1) = true := hst
          clear hO hK hL hsz
          go_wp2_with fail
          refine (Burn_good wr u _ _ A B m _ hE hM (by omega) hgood (fun i hi => by have := HBD.out i hi; omega) hst2 hnf).mono ?_
          rintro e w9 ⟨ov, rfl, hk9⟩
          have hlv2 : (d0 : Int) - m + sm ≥ 0 := by omega
          go_wp2_with fail
          go_ret
          exact ⟨rfl, hKr.trans hk9⟩
end Go.Proofs.Ytlnpipkhofhlnaa
