/-
  The reference's nearest and Hausdorff.
-/
import Derived.Test.YtfmcjbddbomohaaRd
namespace Go.Proofs.Ytfmcjbddbomohaa
open Go.RowKit Go.Deep

set_option maxRecDepth 100000 in
set_option maxHeartbeats 4000000 in
theorem rnearest_any (w : World) (x y : Int) (n : Nat) (pv : Value) (U V : Nat → Int) (hx : pl x) (hy : pl y) (hP : PairsAt w pv n U V) (hR : InR n U V) (hn : 1 ≤ n) (hn2 : n ≤ 1000000) :
    Calls Try.prog 49 #[.agg #[.int .i64 x, .int .i64 y], pv] w fun e w' => e = .returned (.int .i64 (nearI x y U V n)) ∧ Kept w w' := by
  obtain ⟨a, b, o, cap, rfl, ha, hc⟩ := hP
  obtain rfl := ha (by omega)
  obtain ⟨p0, p1⟩ := box2 w (.int .i64 x) (.int .i64 y) 78
  have hk0 : Kept w (w.alloc (.cells #[.int .i64 x, .int .i64 y] 78)) := (Kept.refl w).alloc _
  have HC := Lib.hid hc
  have HR := Lib.hid hR
  have hz : dist x y (U 0) (V 0) = nearI x y U V 1 := by simp only [nearI]; omega
  have HZ := Lib.hid hz
  clear hc ha hz
  go_enter Try.func49, Try.ntmps49
  go_wp2_with fail
  obtain ⟨g, HG⟩ : ∃ g, Hid (g = w.heap.size) := ⟨_, rfl⟩
  rw [← HG.out] at p0 p1 ⊢
  generalize w.alloc (.cells #[.int .i64 x, .int .i64 y] 78) = W at *
  have hcc := HC.out 0 (by omega)
  simp only [Nat.zero_mul, Nat.add_zero] at hcc
  have d0 := hk0.cellSome hcc.1
  have d1 := hk0.cellSome hcc.2
  have s0 : (0 : Int) < (n : Int) := by omega
  have s0' : 0 < n := by omega
  clear hcc
  go_region_held3 (fun w' => w'.cell? ⟨g, 0, none⟩ = some (.int .i64 x) ∧ w'.cell? ⟨g, 1, none⟩ = some (.int .i64 y) ∧ w'.cell? ⟨b, o, none⟩ = some (.int .i64 (U 0)) ∧ w'.cell? ⟨b, o + 1, none⟩ = some (.int .i64 (V 0)) ∧ Kept W w')
    (first | exact keep4 p0 p1 d0 d1 (by repeat (first | assumption | exact Kept.refl _ | apply Kept.drew | apply Kept.drewN | apply Kept.alloc | refine Kept.trans ?_ (by assumption))))
    (first | (go_at_call 51; refine (far_any _ x y (U 0) (V 0) hx hy (HR.out 0 (by omega)).1 (HR.out 0 (by omega)).2).mono ?_; rw [HZ.out]; rintro e w2 ⟨rfl, hk2⟩))
  have hKW : Kept W w2 := (by repeat (first | assumption | exact Kept.refl _ | apply Kept.drew | apply Kept.drewN | apply Kept.alloc | refine Kept.trans ?_ (by assumption)))
  clear d0 d1 hR
  go_wp2_with fail
  go_loopg [5, 6] (n - 1) (fun gg s5 s6 wr => ∃ k : Nat, k + 1 ≤ n ∧ gg = n - (k + 1) ∧ s6 = .int .i64 ((k : Int) + 1) ∧ s5 = .int .i64 (nearI x y U V (k + 1)) ∧ Kept W wr)
  case atStart => exact ⟨0, hn, by omega, rfl, rfl, hKW⟩
  case round =>
    obtain ⟨k, hk, rfl, rfl, rfl, hK⟩ := hrel
    clear hKW
    by_cases hlt : k + 1 < n
    · obtain ⟨c0, c1⟩ := HC.out (k + 1) hlt
      have t0 := hK.cellSome (hk0.cellSome c0)
      have t1 := hK.cellSome (hk0.cellSome c1)
      have q0 := hK.cellSome p0
      have q1 := hK.cellSome p1
      have hu := HR.out (k + 1) hlt
      have hn1 : Hid (nearI x y U V (k + 1 + 1) = min (nearI x y U V (k + 1)) (dist x y (U (k + 1)) (V (k + 1)))) := rfl
      obtain ⟨m, HM⟩ : ∃ m, Hid (m = nearI x y U V (k + 1)) := ⟨_, rfl⟩
      obtain ⟨dd, HDD⟩ : ∃ dd, Hid (dd = dist x y (U (k + 1)) (V (k + 1))) := ⟨_, rfl⟩
      rw [← HM.out]
      obtain ⟨j, HJ⟩ : ∃ j, Hid (j = k + 1) := ⟨_, rfl⟩
      have hja : k + 1 ≤ j := by have := HJ.out; omega
      have hjb : j ≤ k + 1 := by have := HJ.out; omega
      have hcast : ((k : Int) + 1) = (j : Int) := by have := HJ.out; omega
      rw [← HJ.out] at t0 t1 hu HDD hn1 hlt HM
      rw [hcast]
      have s1 : (j : Int) < (n : Int) := by omega
      have s2 : (0 : Int) ≤ (j : Int) := by omega
      clear c0 c1 hcast
      have FIN : Hid (∀ W9 : World, Kept wr W9 → ∃ k' : Nat, k' + 1 ≤ n ∧ n - (j + 1) = n - (k' + 1) ∧ Value.int .i64 ((j : Int) + 1) = .int .i64 ((k' : Int) + 1) ∧ Value.int .i64 (min m dd) = .int .i64 (nearI x y U V (k' + 1)) ∧ Kept W W9) := fun W9 h9 => ⟨j, by omega, rfl, rfl, by rw [hn1.out, HM.out, HDD.out], hK.trans h9⟩
      by_cases hmn : dd < m
      · go_wp2_with fail
        go_region_held3 (fun w' => w'.cell? ⟨g, 0, none⟩ = some (.int .i64 x) ∧ w'.cell? ⟨g, 1, none⟩ = some (.int .i64 y) ∧ w'.cell? ⟨b, o + j * 2, none⟩ = some (.int .i64 (U j)) ∧ w'.cell? ⟨b, o + j * 2 + 1, none⟩ = some (.int .i64 (V j)) ∧ Kept wr w')
          (first | exact keep4 q0 q1 t0 t1 (by repeat (first | assumption | exact Kept.refl _ | apply Kept.drew | apply Kept.drewN | apply Kept.alloc | refine Kept.trans ?_ (by assumption))))
          (first | (go_at_call 51; refine (far_any _ x y (U j) (V j) hx hy hu.1 hu.2).mono ?_; rw [← HDD.out]; rintro e w2 ⟨rfl, hk2⟩))
        all_goals
          have hmd : min m dd = dd := by omega
          rw [hmd] at FIN
          have hKK : Kept wr w2 := (by repeat (first | assumption | exact Kept.refl _ | apply Kept.drew | apply Kept.drewN | apply Kept.alloc | refine Kept.trans ?_ (by assumption)))
          go_wp2_with fail
          go_roundg (n - (j + 1))
          case measure => omega
          case rel => exact FIN.out _ hKK
      · go_wp2_with fail
        go_region_held3 (fun w' => w'.cell? ⟨g, 0, none⟩ = some (.int .i64 x) ∧ w'.cell? ⟨g, 1, none⟩ = some (.int .i64 y) ∧ w'.cell? ⟨b, o + j * 2, none⟩ = some (.int .i64 (U j)) ∧ w'.cell? ⟨b, o + j * 2 + 1, none⟩ = some (.int .i64 (V j)) ∧ Kept wr w')
          (first | exact keep4 q0 q1 t0 t1 (by repeat (first | assumption | exact Kept.refl _ | apply Kept.drew | apply Kept.drewN | apply Kept.alloc | refine Kept.trans ?_ (by assumption))))
          (first | (go_at_call 51; refine (far_any _ x y (U j) (V j) hx hy hu.1 hu.2).mono ?_; rw [← HDD.out]; rintro e w2 ⟨rfl, hk2⟩))
        all_goals
          have hmd : min m dd = m := by omega
          rw [hmd] at FIN
          have hKK : Kept wr w2 := (by repeat (first | assumption | exact Kept.refl _ | apply Kept.drew | apply Kept.drewN | apply Kept.alloc | refine Kept.trans ?_ (by assumption)))
          go_wp2_with fail
          go_roundg (n - (j + 1))
          case measure => omega
          case rel => exact FIN.out _ hKK
    · obtain rfl : n = k + 1 := by omega
      go_wp2_with fail
      go_ret
      exact ⟨rfl, hk0.trans hK⟩
set_option maxRecDepth 100000 in
set_option maxHeartbeats 2000000 in
theorem rhausdorff_any (w : World) (m n : Nat) (av bv : Value) (X Y U V : Nat → Int) (hA : PairsAt w av m X Y) (hB : PairsAt w bv n U V) (h1 : InR m X Y) (h2 : InR n U V) (hm : 1 ≤ m) (hn : 1 ≤ n) (hm2 : m ≤ 1000000) (hn2 : n ≤ 1000000) :
    Calls Try.prog 20 #[av, bv] w fun e w' => e = .returned (.int .i64 (haus m X Y n U V)) ∧ Kept w w' := by
  have hA' := hA
  have hB' := hB
  obtain ⟨a1, b1, o1, cap1, rfl, ha1, hc1⟩ := hA
  obtain ⟨a2, b2, o2, cap2, rfl, ha2, hc2⟩ := hB
  obtain rfl := ha1 (by omega)
  obtain rfl := ha2 (by omega)
  have HC1 := Lib.hid hc1
  have HC2 := Lib.hid hc2
  have HR1 := Lib.hid h1
  have HR2 := Lib.hid h2
  clear hc1 hc2 ha1 ha2 h1 h2
  go_enter Try.func20, Try.ntmps20
  go_wp2_with fail
  go_loopg [5, 6] m (fun g s5 s6 wr => ∃ k : Nat, k ≤ m ∧ g = m - k ∧ s6 = .int .i64 k ∧ s5 = .int .i64 (farF 0 X Y U V n k) ∧ Kept w wr)
  case atStart => exact ⟨0, Nat.zero_le _, rfl, rfl, rfl, Kept.refl _⟩
  case round =>
    obtain ⟨k, hk, rfl, rfl, rfl, hK⟩ := hrel
    by_cases hlt : k < m
    · obtain ⟨c0, c1⟩ := HC1.out k hlt
      have t0 := hK.cellSome c0
      have t1 := hK.cellSome c1
      have hu := HR1.out k hlt
      have hn1 : Hid (farF 0 X Y U V n (k + 1) = max (farF 0 X Y U V n k) (nearI (X k) (Y k) U V n)) := rfl
      obtain ⟨q, HQ⟩ : ∃ q, Hid (q = farF 0 X Y U V n k) := ⟨_, rfl⟩
      obtain ⟨dd, HDD⟩ : ∃ dd, Hid (dd = nearI (X k) (Y k) U V n) := ⟨_, rfl⟩
      rw [← HQ.out]
      clear c0 c1
      go_wp2_with fail
      refine (rnearest_any _ (X k) (Y k) n _ U V hu.1 hu.2 (hB'.kept hK) HR2.out hn hn2).mono ?_
      rw [← HDD.out]
      rintro e w3 ⟨rfl, hk3⟩
      have hK3 : Kept w w3 := hK.trans hk3
      go_wp2_with fail
      all_goals
        go_roundg (m - (k + 1))
        case measure => omega
        case rel => exact ⟨k + 1, by omega, rfl, by go_num, by (rw [hn1.out, ← HQ.out, ← HDD.out]; first | rfl | (congr 1; omega)), hK3⟩
    · obtain rfl : k = m := by omega
      obtain ⟨q, HQ⟩ : ∃ q, Hid (q = farF 0 X Y U V n k) := ⟨_, rfl⟩
      rw [← HQ.out]
      go_wp2_with fail
      obtain ⟨Wo, rfl⟩ : ∃ Wo : World, Wo = wr := ⟨_, rfl⟩
      go_loopg [5, 7] n (fun g s5 s7 wi => ∃ t : Nat, t ≤ n ∧ g = n - t ∧ s7 = .int .i64 t ∧ s5 = .int .i64 (farF q U V X Y k t) ∧ Kept w wi)
      case atStart => exact ⟨0, Nat.zero_le _, rfl, rfl, rfl, hK⟩
      case round =>
        clear hK
        obtain ⟨t, ht, rfl, rfl, rfl, hK⟩ := hrel
        by_cases hlt2 : t < n
        · obtain ⟨c0, c1⟩ := HC2.out t hlt2
          have t0 := hK.cellSome c0
          have t1 := hK.cellSome c1
          have hu := HR2.out t hlt2
          have hn1 : Hid (farF q U V X Y k (t + 1) = max (farF q U V X Y k t) (nearI (U t) (V t) X Y k)) := rfl
          obtain ⟨p, HP⟩ : ∃ p, Hid (p = farF q U V X Y k t) := ⟨_, rfl⟩
          obtain ⟨dd, HDD⟩ : ∃ dd, Hid (dd = nearI (U t) (V t) X Y k) := ⟨_, rfl⟩
          rw [← HP.out]
          clear c0 c1
          go_wp2_with fail
          refine (rnearest_any _ (U t) (V t) k _ X Y hu.1 hu.2 (hA'.kept hK) HR1.out hm hm2).mono ?_
          rw [← HDD.out]
          rintro e w3 ⟨rfl, hk3⟩
          have hK3 : Kept w w3 := hK.trans hk3
          go_wp2_with fail
          all_goals
            go_roundg (n - (t + 1))
            case measure => omega
            case rel => exact ⟨t + 1, by omega, rfl, by go_num, by (rw [hn1.out, ← HP.out, ← HDD.out]; first | rfl | (congr 1; omega)), hK3⟩
        · obtain rfl : t = n := by omega
          go_wp2_with fail
          go_ret
          exact ⟨ret_int (by unfold haus; rw [← HQ.out]), hK⟩
end Go.Proofs.Ytfmcjbddbomohaa
