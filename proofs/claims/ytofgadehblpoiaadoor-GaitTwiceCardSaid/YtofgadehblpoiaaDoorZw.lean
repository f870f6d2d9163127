/-
  GaitTwice.
-/
import Derived.Test.YtofgadehblpoiaaDoorZe
import Derived.Test.YtofgadehblpoiaaDoorFh
namespace Go.Proofs.YtofgadehblpoiaaDoor
open Go.RowKit Go.Deep Go.Shelf

/-- the list that the law derives -/
def twiL (len : Nat) (f : Nat → Int) (i : Nat) : Int := if i < len then Int.tmod (f i) 10001 else 0
theorem twiL_le (len : Nat) (f : Nat → Int) (i : Nat) : -10000 ≤ twiL len f i ∧ twiL len f i ≤ 10000 := by
  unfold twiL
  split
  · generalize f i = x
    rcases Int.le_total 0 x with h | h
    · rw [Int.tmod_eq_emod_of_nonneg h]; omega
    · have e : Int.tmod x 10001 = -(Int.tmod (-x) 10001) := by rw [Int.neg_tmod, Int.neg_neg]
      rw [e, Int.tmod_eq_emod_of_nonneg (by omega)]; omega
  · omega
set_option maxRecDepth 100000 in
set_option maxHeartbeats 16000000 in
theorem twice_any (w : World) (n0 : Nat) (a : Option Addr) (len cap : Nat) (f : Nat → Int) (hV : I16At w (.slice a len cap) len f) (hlen : len ≤ maxLen) (hf : ∀ i, -32768 ≤ f i ∧ f i ≤ 32767) (hn0 : n0 < 256) :
    Calls Tryd.prog 12 #[.int .u8 n0, .slice a len cap] w (LivesPost w) := by
  obtain ⟨i0, hi, hz0, hz1, hz2⟩ := info_parts Tryd.info3
  obtain ⟨a', b, o, cap', e, ha, hc⟩ := hV
  cases e
  unfold maxLen at hlen
  have HC := Lib.hid hc
  have HF := Lib.hid hf
  have LV := Lib.hid lives_any
  obtain ⟨k, HK⟩ : ∃ k : Nat, Hid (k = n0 % 7) := ⟨_, rfl⟩
  have hk : k ≤ 6 := by rw [HK.out]; omega
  have ek : Int.tmod (n0 : Int) 7 = (k : Int) := by rw [HK.out]; exact (Int.ofNat_tmod n0 7).symm
  have hN : 2 ^ k ≤ 64 := by have := Nat.pow_le_pow_right (n := 2) (by omega) hk; omega
  have hpw := pwr_pow ⟨k, by omega⟩
  have HTT := Lib.hid (fun i (h : i < 2 ^ k) => tr_tr (twiL len f) hk h)
  have HSQ := Lib.hid (tr_squares (twiL len f) hk)
  simp only at hpw
  obtain ⟨N, HN⟩ : ∃ N : Nat, Hid (N = 2 ^ k) := ⟨2 ^ k, rfl⟩
  have e0 : (2 : Int) ^ k = (N : Int) := by rw [HN.out]; simp
  rw [← HN.out] at hN hpw HTT HSQ
  obtain ⟨L, HL⟩ : ∃ L : Nat → Int, Hid (L = twiL len f) := ⟨_, rfl⟩
  have hLb : Hid (∀ i, -10000 ≤ L i ∧ L i ≤ 10000) := fun i => by rw [HL.out]; exact twiL_le len f i
  rw [← HL.out] at HTT HSQ
  obtain ⟨T, HT⟩ : ∃ T : Nat → Int, Hid (T = trN N L) := ⟨_, rfl⟩
  have hTb : Hid (∀ i, -640000 ≤ T i ∧ T i ≤ 640000) := fun i => by
    rw [HT.out]
    have := trP_le (l := L) (c := 10000) (i := i) (m := N) (fun j _ => hLb.out j)
    unfold trN
    omega
  have hc1 : trC N L = 0 := by
    unfold trC
    rw [if_neg (by omega), if_neg (by rw [hpw]; omega), allN_true.2 (fun j _ => decide_eq_true (by have := hLb.out j; omega))]
    rfl
  have hc2 : trC N T = 0 := by
    unfold trC
    rw [if_neg (by omega), if_neg (by rw [hpw]; omega), allN_true.2 (fun j _ => decide_eq_true (by have := hTb.out j; omega))]
    rfl
  have T1 := Lib.hid (fun W v (h : IntsAt W v N L) => Transform_any W v N L h (by omega))
  have T2 := Lib.hid (fun W v (h : IntsAt W v N T) => Transform_any W v N T h (by omega))
  unfold TrAns at T1 T2
  simp only [hc1, if_true] at T1
  simp only [hc2, if_true] at T2
  rw [← HT.out] at T1 HTT HSQ
  obtain ⟨U, HU⟩ : ∃ U : Nat → Int, Hid (U = trN N T) := ⟨_, rfl⟩
  rw [← HU.out] at T2 HTT
  have hO := own_zero w w.heap.size 3 (Nat.le_refl _)
  have hK0 : Kept w (w.alloc (.cells #[] 3)) := (Kept.refl w).alloc _
  have hsz0 : w.heap.size < (w.alloc (.cells #[] 3)).heap.size := by simp
  have hw8 : IntKind.i64.wrap (n0 : Int) = (n0 : Int) := IntWalk.i64_in _ (by omega)
  clear hc hf HK hpw hc1 hc2 HT HU
  go_enter Tryd.func12, Tryd.ntmps12
  go_wp2_with fail
  generalize w.alloc (.cells #[] 3) = W0 at *
  go_loopg [5, 6] N (fun g s5 s6 wr => ∃ i : Nat, i ≤ N ∧ g = N - i ∧ s6 = .int .i64 i ∧ Kept w wr ∧ wr.ownsRow w.heap.size 3 1 s5 i (ints L i) ∧ w.heap.size < wr.heap.size)
  case atStart => exact ⟨0, Nat.zero_le _, rfl, rfl, hK0, hO, hsz0⟩
  case round =>
    obtain ⟨i, hi1, rfl, rfl, hK, hO, hsz⟩ := hrel
    clear hK0 hsz0
    obtain ⟨va, vcap, rfl⟩ := own_shape hO
    by_cases hlt : i < N
    · have s3 : (i : Int) < (N : Int) := by omega
      have hnx : Hid (ints L (i + 1) = ints L i ++ [.int .i64 (L i)]) := ints_succ _ _
      by_cases hlx : i < len
      · have s4 : (i : Int) < (len : Int) := by omega
        have s5 : (0 : Int) ≤ (i : Int) := by omega
        obtain rfl := ha (by omega)
        have t0 := hK.cellSome (HC.out i hlx)
        (try dsimp only at t0)
        have hb := HF.out i
        have hLi : Hid (L i = Int.tmod (f i) 10001) := by show _ = _; rw [HL.out]; unfold twiL; rw [if_pos hlx]
        generalize f i = x at *
        obtain ⟨z, HZ⟩ : ∃ z, Hid (z = L i) := ⟨_, rfl⟩
        rw [← HZ.out] at hLi hnx
        have ez : Int.tmod x 10001 = z := hLi.out.symm
        have hw1 : IntKind.i64.wrap x = x := IntWalk.i64_in _ (by omega)
        clear HZ hLi
        go_wp2_with (first | (at_builtin; refine wpList_append_own _ rfl _ _ 23 rfl w.heap.size 3 i0 (.int .i64 0) 1 8 Tryd.underlying23 hi hz0 hz1 hz2 rfl (by decide) _ _ _ rfl (hO.alloc _) ⟨_, 0, none⟩ 1 1 [.int .i64 z] rfl rfl (cell_one_new _ _ _) ?c2 ?c3 ?c4 ?c5 ?_))
        case c2 => simp [Value.oneCell']
        case c3 => unfold maxLen; omega
        case c4 => omega
        case c5 => (try simp); omega
        intro ov' w2 hO3 hgr _
        have hK2 : Kept w w2 := (hK.alloc _).grew hgr (hO.alloc _) (Nat.le_refl _)
        have hO4 : w2.ownsRow w.heap.size 3 1 ov' (i + 1) (ints L (i + 1)) := by rw [hnx.out]; exact hO3
        have hsz2 : w.heap.size < w2.heap.size := by have := hgr.size; simp at this; omega
        clear hO3 hgr hO
        go_wp2_with fail
        go_roundg (N - (i + 1))
        case measure => omega
        case rel => exact ⟨i + 1, by omega, rfl, by first | rfl | go_num, hK2, hO4, hsz2⟩
      · have s4 : ¬ (i : Int) < (len : Int) := by omega
        have hLi : L i = 0 := by rw [HL.out]; unfold twiL; rw [if_neg hlx]
        rw [hLi] at hnx
        clear hLi
        go_wp2_with (first | (at_builtin; refine wpList_append_own _ rfl _ _ 23 rfl w.heap.size 3 i0 (.int .i64 0) 1 8 Tryd.underlying23 hi hz0 hz1 hz2 rfl (by decide) _ _ _ rfl (hO.alloc _) ⟨_, 0, none⟩ 1 1 [.int .i64 0] rfl rfl (cell_one_new _ _ _) ?c2 ?c3 ?c4 ?c5 ?_))
        case c2 => simp [Value.oneCell']
        case c3 => unfold maxLen; omega
        case c4 => omega
        case c5 => (try simp); omega
        intro ov' w2 hO3 hgr _
        have hK2 : Kept w w2 := (hK.alloc _).grew hgr (hO.alloc _) (Nat.le_refl _)
        have hO4 : w2.ownsRow w.heap.size 3 1 ov' (i + 1) (ints L (i + 1)) := by rw [hnx.out]; exact hO3
        have hsz2 : w.heap.size < w2.heap.size := by have := hgr.size; simp at this; omega
        clear hO3 hgr hO
        go_wp2_with fail
        go_roundg (N - (i + 1))
        case measure => omega
        case rel => exact ⟨i + 1, by omega, rfl, by first | rfl | go_num, hK2, hO4, hsz2⟩
    · obtain rfl : i = N := by omega
      have hI := ints_own hO
      have HI := Lib.hid hI
      obtain ⟨_, b1, o1, cap1, he1, ha1, hc1⟩ := hI
      cases he1
      have HC1 := Lib.hid hc1
      clear hc1 hO HL HC HF
      go_wp2_with (first
        | (go_at_call 36; first | (refine (T1.out _ _ HI.out).mono ?_; clear T1; rintro e w1 ⟨hk1, r, rfl, hr1, hr2⟩) | (refine (T2.out _ _ (CellsAt.of_row hr2)).mono ?_; clear T2; rintro e w2 ⟨hk2, q, rfl, hq1, hq2⟩))
        | (go_at_call 20; refine (LV.out _).mono ?_; rintro e w3 ⟨rfl, hk3⟩))
      have H1 := Lib.hid (fun j (h : j < i) => (hk1.trans (hk2.trans hk3)).cellSome (HC1.out j h))
      have H2 := Lib.hid ((hk2.trans hk3).row hr2)
      have H3 := Lib.hid (hk3.row hq2)
      have hK4 := hK.trans (hk1.trans (hk2.trans hk3))
      clear hr1 hr2 hq1 hq2 hk1 hk2 hk3 HI HC1 hK LV
      go_loopg [12, 13, 14] i (fun g s12 s13 s14 wr => ∃ (j : Nat) (A C : Int), j ≤ i ∧ g = i - j ∧ s12 = .int .i64 A ∧ s13 = .int .i64 C ∧ s14 = .int .i64 j ∧ Quiet w3 wr ∧ 0 ≤ A ∧ A ≤ 100000000 * j ∧ 0 ≤ C ∧ C ≤ 409600000000 * j ∧ Hid (A = sumZ (fun j => L j * L j) j) ∧ Hid (C = sumZ (fun j => T j * T j) j))
      case atStart => exact ⟨0, 0, 0, Nat.zero_le _, rfl, rfl, rfl, rfl, Quiet.refl _, by omega, by omega, by omega, by omega, rfl, rfl⟩
      case round =>
        obtain ⟨j, A, C, hj, rfl, rfl, rfl, rfl, hQ, hA0, hA1, hC0, hC1, hA, hC⟩ := hrel
        by_cases hlt : j < i
        · obtain rfl := ha1 (by omega)
          have t0 := hQ.kept.cellSome (H1.out j hlt)
          have t1 := hQ.kept.cellSome (H2.out.cell hlt)
          have t2 := hQ.kept.cellSome (H3.out.cell hlt)
          (try dsimp only at t0 t1 t2)
          have s2 : (j : Int) < (i : Int) := by omega
          have s3 : (0 : Int) ≤ (j : Int) := by omega
          have hLj := hLb.out j
          have hTj := hTb.out j
          have hU := HTT.out j hlt
          have hAn : Hid (sumZ (fun j => L j * L j) (j + 1) = A + L j * L j) := by show _ = _; rw [hA.out]; rfl
          have hCn : Hid (sumZ (fun j => T j * T j) (j + 1) = C + T j * T j) := by show _ = _; rw [hC.out]; rfl
          obtain ⟨y, HY⟩ : ∃ y, Hid (y = L j) := ⟨_, rfl⟩
          obtain ⟨x, HX⟩ : ∃ x, Hid (x = T j) := ⟨_, rfl⟩
          obtain ⟨u, HUj⟩ : ∃ u, Hid (u = U j) := ⟨_, rfl⟩
          rw [← HY.out] at t0 hLj hU hAn
          rw [← HX.out] at t1 hTj hCn
          rw [← HUj.out] at t2 hU
          have hsy := sq_bound hLj.1 hLj.2
          have hsx := sq_bound hTj.1 hTj.2
          obtain ⟨yy, HYY⟩ : ∃ yy, yy = y * y := ⟨_, rfl⟩
          obtain ⟨xx, HXX⟩ : ∃ xx, xx = x * x := ⟨_, rfl⟩
          rw [← HYY] at hAn hsy
          rw [← HXX] at hCn hsx
          have hyN : -(10000 * 64) ≤ y * (i : Int) ∧ y * (i : Int) ≤ 10000 * 64 := by
            have h1 := Int.mul_le_mul_of_nonneg_right hLj.2 (show (0 : Int) ≤ (i : Int) by omega)
            have h2 := Int.mul_le_mul_of_nonneg_right hLj.1 (show (0 : Int) ≤ (i : Int) by omega)
            omega
          rw [← hU] at hyN
          have e1 : y * (i : Int) = u := hU.symm
          have e2 : y * y = yy := HYY.symm
          have e3 : x * x = xx := HXX.symm
          have s4 : ¬ x < -1000000 := by omega
          have s5 : ¬ x > 1000000 := by omega
          have v1 : IntKind.i64.wrap u = u := IntWalk.i64_in _ (by omega)
          have v2 : wrap64 u = u := IntWalk.wrap64_in _ (by omega)
          have v3 : IntKind.i64.wrap yy = yy := IntWalk.i64_in _ (by omega)
          have v4 : wrap64 yy = yy := IntWalk.wrap64_in _ (by omega)
          have v5 : IntKind.i64.wrap xx = xx := IntWalk.i64_in _ (by omega)
          have v6 : wrap64 xx = xx := IntWalk.wrap64_in _ (by omega)
          have v7 : IntKind.i64.wrap (A + yy) = A + yy := IntWalk.i64_in _ (by omega)
          have v8 : wrap64 (A + yy) = A + yy := IntWalk.wrap64_in _ (by omega)
          have v9 : IntKind.i64.wrap (C + xx) = C + xx := IntWalk.i64_in _ (by omega)
          have v10 : wrap64 (C + xx) = C + xx := IntWalk.wrap64_in _ (by omega)
          have e5 : (u != u) = false := by simp
          clear hA hC HY HX HUj HYY HXX hU hyN
          go_wp2_with fail
          go_quiet (fail)
          go_wp2_with fail
          go_quiet (fail)
          go_wp2_with fail
          go_roundg (i - (j + 1))
          case measure => omega
          case rel => exact ⟨j + 1, A + yy, C + xx, by omega, rfl, by first | rfl | go_num, by first | rfl | go_num, by first | rfl | go_num, by first | exact hQ.drewN _ | exact (hQ.drewN _).drewN _, by omega, by omega, by omega, by omega, hAn.out.symm, hCn.out.symm⟩
        · obtain rfl : j = i := by omega
          have hres : Hid (C = A * (j : Int)) := by show _ = _; rw [hC.out, hA.out]; exact HSQ.out
          have s2 : ¬ (j : Int) < (j : Int) := by omega
          have e1 : A * (j : Int) = C := hres.out.symm
          have v1 : IntKind.i64.wrap C = C := IntWalk.i64_in _ (by omega)
          have v2 : wrap64 C = C := IntWalk.wrap64_in _ (by omega)
          have e5 : (C == C) = true := by simp
          clear hA hC HSQ hres
          go_wp2_with fail
          go_ret
          exact ⟨rfl, hK4.trans hQ.kept⟩
end Go.Proofs.YtofgadehblpoiaaDoor
