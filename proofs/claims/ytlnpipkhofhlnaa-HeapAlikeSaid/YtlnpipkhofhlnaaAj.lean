/-
  The reference's Adjoint and Rests.
  And: The reference's Rests.
-/
import Derived.Test.YtlnpipkhofhlnaaDt
import Derived.Deep.QuietTactic
import Derived.BigQuiet
namespace Go.Proofs.Ytlnpipkhofhlnaa
open Go.RowKit Go.Deep

def adjE (N : Nat) (M : Nat → Nat → Int) (i j : Nat) : Int := (1 - 2 * (((i + j) % 2 : Nat) : Int)) * detE (N - 1) (minM M j i)
theorem adjE_adj {N : Nat} {M : Nat → Nat → Int} {i j : Nat} (hi : i < N) (hj : j < N) : adjE N M i j = adj M N i j := by
  obtain ⟨N, rfl⟩ : ∃ k, N = k + 1 := ⟨N - 1, by omega⟩
  rw [adj_E M hi hj]
  rfl
theorem adjE_bd {N : Nat} {M : Nat → Nat → Int} (h : Small N M) (hN1 : 1 ≤ N) (hN : N ≤ 7) (i j : Nat) : -921600000000 ≤ adjE N M i j ∧ adjE N M i j ≤ 921600000000 := by
  obtain ⟨N, rfl⟩ : ∃ k, N = k + 1 := ⟨N - 1, by omega⟩
  have hb := detB_step (N := N) (by omega)
  have h1 := detE_bd (h.min j i)
  have h0 := detB_pos N
  unfold adjE
  rw [Nat.add_sub_cancel]
  rcases Nat.mod_two_eq_zero_or_one (i + j) with e | e <;> rw [e]
  · have : (1 - 2 * ((0 : Nat) : Int)) * detE N (minM M j i) = detE N (minM M j i) := by simp
    omega
  · have : (1 - 2 * ((1 : Nat) : Int)) * detE N (minM M j i) = - detE N (minM M j i) := by simp
    omega
set_option maxRecDepth 100000 in
set_option maxHeartbeats 4000000 in
theorem adjoint_ref (w : World) (N : Nat) (mv : Value) (M : Nat → Nat → Int) (hM : MatAt w mv N N M) (hN1 : 1 ≤ N) (hN : N ≤ 7) (hS : Small N M) :
    Calls Try.prog 34 #[mv] w (TabPost w N N (adjE N M)) := by
  obtain ⟨va, vcap, rfl⟩ := mat_shape hM
  obtain ⟨R, HR⟩ : ∃ R, Hid (R = adjE N M) := ⟨_, rfl⟩
  rw [← HR.out]
  have HRV : Hid (∀ i j, R i j = (1 - 2 * (((i + j) % 2 : Nat) : Int)) * detE (N - 1) (minM M j i)) := fun i j => by rw [HR.out]; rfl
  have HRB : Hid (∀ i j, -921600000000 ≤ R i j ∧ R i j ≤ 921600000000) := fun i j => by rw [HR.out]; exact adjE_bd hS hN1 hN i j
  have HSM : Hid (∀ r c, Small (N - 1) (minM M r c)) := fun r c => by
    obtain ⟨k, rfl⟩ : ∃ k, N = k + 1 := ⟨N - 1, by omega⟩
    exact hS.min r c
  obtain ⟨i0, hi, hz0, hz1, hz2⟩ := info_parts Try.info3
  obtain ⟨i1, hii, hy0, hy1, hy2⟩ := info_parts Try.infoInts
  have hO0 := own_zeroT w w.heap.size 25 1 (Nat.le_refl _)
  have hT0 := TabL.nil _ w.heap.size w.heap.size N hO0
  have hK0 : Kept w (w.alloc (.cells #[] 25)) := (Kept.refl w).alloc _
  clear hO0 hS
  go_enter Try.func34, Try.ntmps34
  go_wp2_with fail
  generalize w.alloc (.cells #[] 25) = W0 at *
  go_loopg [3, 4] N (fun g s3 s4 wr => ∃ k : Nat, k ≤ N ∧ g = N - k ∧ s4 = .int .i64 (k : Int) ∧ Kept w wr ∧ TabL wr w.heap.size w.heap.size s3 (rowsL R k) N)
  case atStart => exact ⟨0, Nat.zero_le _, rfl, rfl, hK0, hT0⟩
  case round =>
    obtain ⟨k, hk, rfl, rfl, hK, hT⟩ := hrel
    clear hK0 hT0
    by_cases hlt : k < N
    · have s1 : (k : Int) < (N : Int) := by omega
      obtain ⟨Ws, rfl⟩ : ∃ Ws : World, Ws = wr := ⟨_, rfl⟩
      have hO0 := own_zero Ws Ws.heap.size (Nat.le_refl _)
      have hk1 : Kept Ws (Ws.alloc (.cells #[] 3)) := (Kept.refl Ws).alloc _
      go_wp2_with fail
      generalize Ws.alloc (.cells #[] 3) = W1 at *
      go_loopg [5, 6] N (fun g s5 s6 wi => ∃ j : Nat, j ≤ N ∧ g = N - j ∧ s6 = .int .i64 (j : Int) ∧ Kept Ws wi ∧ wi.ownsRow Ws.heap.size 3 1 s5 j (ints (R k) j))
      case atStart => exact ⟨0, Nat.zero_le _, rfl, rfl, hk1, hO0⟩
      case round =>
        obtain ⟨j, hj, rfl, rfl, hKi, hO⟩ := hrel
        clear hO0 hk1
        by_cases hlj : j < N
        · have s2 : (j : Int) < (N : Int) := by omega
          have hwi := Kept.size hKi
          have hM2 := hM.kept (hK.trans hKi)
          have hrv := HRV.out k j
          have hrb := HRB.out k j
          obtain ⟨x, HX⟩ : ∃ x, Hid (x = R k j) := ⟨_, rfl⟩
          obtain ⟨d, HD⟩ : ∃ d, Hid (d = detE (N - 1) (minM M j k)) := ⟨_, rfl⟩
          rw [← HD.out, ← HX.out] at hrv
          rw [← HX.out] at hrb
          have HMIN := Lib.hid (minor_ref wr N j k (.slice va N vcap) M hM2 (by omega) hlj hlt)
          have HDET := Lib.hid (fun (w2 : World) (v : Value) (h : MatAt w2 v (N - 1) (N - 1) (minM M j k)) => det_ref (N - 1) w2 v (minM M j k) h (by omega) (HSM.out j k))
          have s3 : IntKind.i64.wrap ((k : Int) + (j : Int)) = (k : Int) + (j : Int) := IntWalk.i64_in _ (by omega)
          have s4 : (0 : Int) ≤ (k : Int) + (j : Int) := by omega
          obtain ⟨pp, HPP⟩ : ∃ pp, Hid (pp = (k + j) % 2) := ⟨_, rfl⟩
          rw [← HPP.out] at hrv
          have hp2 : pp ≤ 1 := by rw [HPP.out]; omega
          have hpm : ((k : Int) + (j : Int)) % 2 = (pp : Int) := by rw [HPP.out]; omega
          have hpt : ((k : Int) + (j : Int)).tmod 2 = (pp : Int) := by rw [Int.tmod_eq_emod_of_nonneg s4]; exact hpm
          have s5 : IntKind.i64.wrap (2 * (pp : Int)) = 2 * (pp : Int) := IntWalk.i64_in _ (by omega)
          have s6 : IntKind.i64.wrap (1 - 2 * (pp : Int)) = 1 - 2 * (pp : Int) := IntWalk.i64_in _ (by omega)
          have s7 : IntKind.i64.wrap ((1 - 2 * (pp : Int)) * d) = x := by rw [← hrv]; exact IntWalk.i64_in _ (by omega)
          have HRVK := Lib.hid hrv
          clear hrv hrb hM2
          go_wp2_with fail
          refine HMIN.out.mono ?_
          rintro e w4 ⟨v4, rfl, hk4, hT4⟩
          have hM4 := hT4.mat (by omega)
          obtain ⟨va4, vcap4, rfl⟩ := mat_shape hM4
          clear hT4
          go_wp2_with fail
          refine (HDET.out _ _ hM4).mono ?_
          rw [← HD.out]
          rintro e w5 ⟨rfl, hk5⟩
          have hkk := hk4.trans hk5
          have hO5 := own_kept hO hkk
          have hKi5 := hKi.trans hkk
          have hwi5 := Kept.size hKi5
          clear hM4 hk4 hk5 hkk hO hKi
          go_wp2_with (first | (at_builtin; refine wpList_append_own _ rfl _ _ 25 rfl Ws.heap.size 3 i0 (.int .i64 0) 1 8 Try.underlying25 hi hz0 hz1 hz2 rfl (by decide) _ _ _ rfl (hO5.alloc _) ⟨w5.heap.size, 0, none⟩ 1 1 [.int .i64 x] rfl rfl ?c1 ?c2 ?c3 ?c4 ?c5 ?_))
          case c1 => exact cell_one_new w5 (.int .i64 x) 3
          case c2 => simp [Value.oneCell']
          case c3 => unfold maxLen; omega
          case c4 => omega
          case c5 => simp; omega
          intro ov' w2 hO3 hgr _
          have hX := grew_X hgr (hO5.alloc _)
          have hK3 : Kept Ws w2 := (hKi5.alloc _).step hX (fun i hi => hi)
          have hO4 : w2.ownsRow Ws.heap.size 3 1 ov' (j + 1) (ints (R k) (j + 1)) := by rw [ints_succ, ← HX.out]; exact hO3
          clear hO3 hgr hX hKi5 hO5
          go_wp2_with fail
          go_roundg (N - (j + 1))
          case measure => omega
          case rel => exact ⟨j + 1, by omega, rfl, by go_num, hK3, hO4⟩
        · obtain rfl : j = N := by omega
          have s2 : ¬ (j : Int) < (j : Int) := by omega
          obtain ⟨b, cap, rfl, hbb, hbl⟩ := hO.form (by omega)
          obtain ⟨vs, hv1, hv2, hv3⟩ := hT.kept hKi
          rw [rowsL_len] at hv1 hv2
          have HV1 := Lib.hid hv1
          have hKw := hK.trans hKi
          have hwi := Kept.size hKw
          clear hv1
          go_wp2_with (first | (at_builtin; refine wpList_append_own _ rfl _ _ 63 rfl w.heap.size 25 i1 (.slice none 0 0) 1 24 Try.underlying63 hii hy0 hy1 hy2 rfl (by decide) _ _ _ rfl (hv2.alloc _) ⟨wr.heap.size, 0, none⟩ 1 1 [.slice (some ⟨b, 0, none⟩) j cap] rfl rfl ?e1 ?e2 ?e3 ?e4 ?e5 ?_))
          case e2 => simp [Value.oneCell']
          case e3 => unfold maxLen; omega
          case e4 => omega
          case e5 => (try simp); omega
          intro ov5 W5 hO7 hgr7 _
          have hX7 := grew_X hgr7 (hv2.alloc _)
          have hK5 : Kept w W5 := (hKw.alloc _).step hX7 (fun i hi => hi)
          have hT5 : TabL W5 w.heap.size w.heap.size ov5 (rowsL R (k + 1)) j := by
            rw [rowsL_succ]
            have hss := Kept.size hK
            refine TabL.grow (by rw [rowsL_len]; exact HV1.out) (by rw [rowsL_len]; exact hv2.alloc _) (fun i x hx => ?_) (own_base (hO.alloc _) hss) (by rw [rowsL_len]; exact hO7) hgr7
            obtain ⟨u, h4, h5⟩ := hv3 i x hx
            exact ⟨u, h4, h5.alloc _⟩
          clear hO7 hgr7 hX7 hv2 hv3 hO hKi hKw hK hT
          go_wp2_with fail
          go_roundg (j - (k + 1))
          case measure => omega
          case rel => exact ⟨k + 1, by omega, rfl, by go_num, hK5, hT5⟩
    · obtain rfl : k = N := by omega
      go_wp2_with fail
      go_ret
      exact ⟨_, rfl, hK, hT⟩
end Go.Proofs.Ytlnpipkhofhlnaa
namespace Go.Proofs.Ytlnpipkhofhlnaa
open Go.RowKit Go.Deep

/-- a matrix times a list, modulo a number -/
def restE (A : Nat → Nat → Int) (N : Nat) (det : Int) (f : Nat → Int) (i : Nat) : Int := sumZ (fun j => A i j * f j) N % det
theorem tm_bd (s d : Int) (hd : 1 ≤ d) : -d < s.tmod d ∧ s.tmod d < d := ⟨Int.lt_tmod_of_pos s (by omega), Int.tmod_lt_of_pos s (by omega)⟩
theorem mod_twice (s d : Int) (hd : 1 ≤ d) : (s.tmod d + d).tmod d = s % d := by
  have h1 : 0 ≤ s.tmod d + d := by
    have := tm_bd s d hd
    omega
  rw [Int.tmod_eq_emod_of_nonneg h1, Int.add_emod_right, Int.tmod_eq_emod]
  split
  · simp
  · rw [Int.natAbs_of_nonneg (by omega), Int.sub_emod_right, Int.emod_emod]
def ListPost (w : World) (N : Nat) (f : Nat → Int) (e : Ending) (w' : World) : Prop := ∃ v, e = .returned v ∧ Kept w w' ∧ w'.ownsRow w.heap.size 3 1 v N (ints f N)
set_option maxRecDepth 100000 in
set_option maxHeartbeats 4000000 in
theorem rests_ref (w : World) (N : Nat) (mv lv : Value) (M : Nat → Nat → Int) (det : Int) (f : Nat → Int) (hM : MatAt w mv N N M) (hL : IntsAt w lv N f) (hN : N ≤ 7) (hd1 : 1 ≤ det) (hd2 : det ≤ 1000000)
    (hMb : ∀ i j, -921600000000 ≤ M i j ∧ M i j ≤ 921600000000) (hfb : ∀ j, j < N → -2000 ≤ f j ∧ f j ≤ 2000) :
    Calls Try.prog 35 #[mv, .int .i64 det, lv] w (ListPost w N (restE M N det f)) := by
  obtain ⟨us, ⟨ma, mb, mo, mcap, rfl, hma, hmc⟩, hrows⟩ := hM
  obtain ⟨la, lb, lo, lcap, rfl, hla, hlc⟩ := hL
  have HMC := Lib.hid hmc
  have HLC := Lib.hid hlc
  have HROWS := Lib.hid hrows
  have HTB : Hid (∀ i j, j < N → -1843200000000000 ≤ M i j * f j ∧ M i j * f j ≤ 1843200000000000) := fun i j hj => mul_bd (hMb i j).1 (hMb i j).2 (hfb j hj).1 (hfb j hj).2
  have HSB : Hid (∀ i k, k ≤ N → -(1843200000000000 * (k : Int)) ≤ sumZ (fun j => M i j * f j) k ∧ sumZ (fun j => M i j * f j) k ≤ 1843200000000000 * (k : Int)) := fun i k hk => by
    have ht : ∀ j, j < k → -1843200000000000 ≤ M i j * f j ∧ M i j * f j ≤ 1843200000000000 := fun j hj => mul_bd (hMb i j).1 (hMb i j).2 (hfb j (by omega)).1 (hfb j (by omega)).2
    have e1 := sumZ_bound (f := fun j => M i j * f j) (c := 1843200000000000) (n := k) (fun j hj => (ht j hj).2)
    have e2 := sumZ_bound (f := fun j => -1 * (M i j * f j)) (c := 1843200000000000) (n := k) (fun j hj => by have := (ht j hj).1; omega)
    rw [sumZ_mul] at e2
    omega
  have HMT : Hid (∀ s : Int, (s.tmod det + det).tmod det = s % det ∧ -det < s.tmod det ∧ s.tmod det < det) := fun s => ⟨mod_twice s det hd1, tm_bd s det hd1⟩
  have HE : Hid (∀ i, restE M N det f i = sumZ (fun j => M i j * f j) N % det) := fun i => rfl
  obtain ⟨R, HR⟩ : ∃ R, Hid (R = restE M N det f) := ⟨_, rfl⟩
  rw [← HR.out] at HE ⊢
  obtain ⟨i0, hi, hz0, hz1, hz2⟩ := info_parts Try.info3
  have hO0 := own_zero w w.heap.size (Nat.le_refl _)
  have hK0 : Kept w (w.alloc (.cells #[] 3)) := (Kept.refl w).alloc _
  have hdz : ¬ det = 0 := by omega
  have HMA := Lib.hid hma
  have HLA := Lib.hid hla
  clear hmc hlc hrows hMb hfb hma hla
  go_enter Try.func35, Try.ntmps35
  go_wp2_with fail
  generalize w.alloc (.cells #[] 3) = W0 at *
  go_loopg [7, 8] N (fun g s7 s8 wr => ∃ k : Nat, k ≤ N ∧ g = N - k ∧ s8 = .int .i64 (k : Int) ∧ Kept w wr ∧ wr.ownsRow w.heap.size 3 1 s7 k (ints R k))
  case atStart => exact ⟨0, Nat.zero_le _, rfl, rfl, hK0, hO0⟩
  case round =>
    obtain ⟨k, hk, rfl, rfl, hK, hO⟩ := hrel
    clear hK0 hO0
    by_cases hlt : k < N
    · have s1 : (k : Int) < (N : Int) := by omega
      obtain rfl := HMA.out (by omega)
      obtain rfl := HLA.out (by omega)
      obtain ⟨xb, xo, xcap, hux, hx1, hx2, hxc⟩ := HROWS.out k hlt
      have t0 := HMC.out k hlt
      rw [hux] at t0
      have HXC := Lib.hid hxc
      clear hux hxc hx2
      go_wp2_with fail
      obtain ⟨Wo, rfl⟩ : ∃ Wo : World, Wo = wr := ⟨_, rfl⟩
      go_loopg [9, 10] N (fun g s9 s10 wi => ∃ j : Nat, j ≤ N ∧ g = N - j ∧ s10 = .int .i64 (j : Int) ∧ s9 = .int .i64 (sumZ (fun j => M k j * f j) j) ∧ Quiet Wo wi)
      case atStart => exact ⟨0, Nat.zero_le _, rfl, rfl, rfl, Quiet.refl _⟩
      case round =>
        obtain ⟨j, hj, rfl, rfl, rfl, hq⟩ := hrel
        have hKi := hK.trans hq.kept
        by_cases hlj : j < N
        · have s2 : (j : Int) < (N : Int) := by omega
          have c0 := hKi.cellSome t0
          have c1 := hKi.cellSome (HXC.out j hlj)
          have c2 := hKi.cellSome (HLC.out j hlj)
          have hsb := HSB.out k j hj
          have htb := HTB.out k j hlj
          have hnx : sumZ (fun j => M k j * f j) (j + 1) = sumZ (fun j => M k j * f j) j + M k j * f j := rfl
          obtain ⟨S, HS⟩ : ∃ S, Hid (S = sumZ (fun j => M k j * f j) j) := ⟨_, rfl⟩
          rw [← HS.out] at hsb hnx ⊢
          obtain ⟨x, HX⟩ : ∃ x, Hid (x = M k j) := ⟨_, rfl⟩
          obtain ⟨y, HY⟩ : ∃ y, Hid (y = f j) := ⟨_, rfl⟩
          rw [← HX.out] at c1 htb hnx
          rw [← HY.out] at c2 htb hnx
          have s3 : IntKind.i64.wrap (x * y) = x * y := IntWalk.i64_in _ (by omega)
          have s4 : IntKind.i64.wrap (S + x * y) = S + x * y := IntWalk.i64_in _ (by omega)
          have s5 : (0 : Int) ≤ (k : Int) := by omega
          have s6 : (0 : Int) ≤ (j : Int) := by omega
          have HNX := Lib.hid hnx
          clear hnx hsb htb hKi
          go_wp2_with fail
          go_quiet (fail)
          go_wp2_with fail
          have hq2 := hq.drewN nq
          go_roundg (N - (j + 1))
          case measure => omega
          case rel => exact ⟨j + 1, by omega, rfl, by go_num, by rw [HNX.out], hq2⟩
        · obtain rfl : j = N := by omega
          have s2 : ¬ (j : Int) < (j : Int) := by omega
          obtain ⟨hm1, hm2, hm3⟩ := HMT.out (sumZ (fun t => M k t * f t) j)
          have hek := HE.out k
          obtain ⟨S, HS⟩ : ∃ S, Hid (S = sumZ (fun t => M k t * f t) j) := ⟨_, rfl⟩
          rw [← HS.out] at hm1 hm2 hm3 hek ⊢
          rw [← hek] at hm1
          obtain ⟨rk, HRK⟩ : ∃ rk, Hid (rk = R k) := ⟨_, rfl⟩
          rw [← HRK.out] at hm1
          obtain ⟨tm, HTM⟩ : ∃ tm, Hid (tm = S.tmod det) := ⟨_, rfl⟩
          have htm : S.tmod det = tm := HTM.out.symm
          rw [htm] at hm1 hm2 hm3
          have s3 : IntKind.i64.wrap (tm + det) = tm + det := IntWalk.i64_in _ (by omega)
          have hO2 := own_kept hO hq.kept
          have hwi := Kept.size hKi
          clear hek
          go_wp2_with (first | (at_builtin; refine wpList_append_own _ rfl _ _ 25 rfl w.heap.size 3 i0 (.int .i64 0) 1 8 Try.underlying25 hi hz0 hz1 hz2 rfl (by decide) _ _ _ rfl (hO2.alloc _) ⟨wr.heap.size, 0, none⟩ 1 1 [.int .i64 rk] rfl rfl ?c1 ?c2 ?c3 ?c4 ?c5 ?_))
          case c2 => simp [Value.oneCell']
          case c3 => unfold maxLen; omega
          case c4 => omega
          case c5 => (try simp); omega
          intro ov' w2 hO3 hgr _
          have hX := grew_X hgr (hO2.alloc _)
          have hK3 : Kept w w2 := (hKi.alloc _).step hX (fun i hi => hi)
          have hO4 : w2.ownsRow w.heap.size 3 1 ov' (k + 1) (ints R (k + 1)) := by rw [ints_succ, ← HRK.out]; exact hO3
          clear hO3 hgr hX hKi hO2 hO
          go_wp2_with fail
          go_roundg (j - (k + 1))
          case measure => omega
          case rel => exact ⟨k + 1, by omega, rfl, by go_num, hK3, hO4⟩
    · obtain rfl : k = N := by omega
      go_wp2_with fail
      go_ret
      exact ⟨_, rfl, hK, hO⟩
end Go.Proofs.Ytlnpipkhofhlnaa
