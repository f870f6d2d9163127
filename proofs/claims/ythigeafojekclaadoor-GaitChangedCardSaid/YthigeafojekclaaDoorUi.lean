/-
  The reference's Over, Make; Around.
-/
import Derived.Test.YthigeafojekclaaDoorUh
import Derived.Test.YthigeafojekclaaDoorRa
import Derived.Test.YthigeafojekclaaDoorRc
namespace Go.Proofs.YthigeafojekclaaDoor.Num
open Go.RowKit Go.Deep

set_option maxRecDepth 100000 in
set_option maxHeartbeats 4000000 in
theorem Over_any (w : World) (u v : Value) (x y : Int) (hX : ZAt w u x) (hY : ZAt w v y) (hy : 0 < y) :
    Calls Tryd.prog 33 #[u, v] w (QPost w x y) := by
  obtain ⟨m, a, l, c, rfl⟩ := hX.shape
  obtain ⟨m2, a2, l2, c2, rfl⟩ := hY.shape
  obtain ⟨rfl, _⟩ := hY.pos (by omega)
  have HX := Lib.hid hX
  have HY := Lib.hid hY
  clear hX hY
  go_enter Tryd.func33, Tryd.ntmps33
  go_wp2_with fail
  exact bodyPost_ret (v := .agg #[.bool m, .slice a l c, .bool false, .slice a2 l2 c2]) (by simp [results, Tryd.results33, go_sem]) rfl ⟨_, rfl, ⟨m, _, false, _, rfl, HX.out.kept ((((Kept.refl w).alloc _).alloc _).alloc _), HY.out.kept ((((Kept.refl w).alloc _).alloc _).alloc _)⟩, (((Kept.refl w).alloc _).alloc _).alloc _⟩
set_option maxRecDepth 100000 in
set_option maxHeartbeats 4000000 in
theorem Make_any (w : World) (x y : Nat) (hx : x ≤ 1000000000) (hy : y ≤ 1000000000) (hy0 : 0 < y) :
    Calls Tryd.prog 16 #[.int .i64 x, .int .i64 y] w (QPost w ((x : Int) / (Int.gcd x y : Int)) ((y : Int) / (Int.gcd x y : Int))) := by
  have hA2 := box_row4 w (.bool false) (.slice none 0 0) (.bool false) (.slice none 0 0) 39 w.heap.size rfl
  have hKwW : Kept w (w.alloc (.cells #[.bool false, .slice none 0 0, .bool false, .slice none 0 0] 39)) := (Kept.refl w).alloc _
  have hbn : (10 : Int) ^ 60 * 10000 < bigN := by
    have h1 : (10000 : Int) ^ 20 ≤ bigN := pw_le (by omega)
    omega
  go_enter Tryd.func16, Tryd.ntmps16
  go_wp2_with fail
  generalize w.alloc (.cells #[.bool false, .slice none 0 0, .bool false, .slice none 0 0] 39) = W at *
  obtain ⟨r0, HR0⟩ : ∃ r0, Hid (r0 = w.heap.size) := ⟨_, rfl⟩
  rw [← HR0.out] at hA2 ⊢
  have hrw : w.heap.size ≤ r0 := by rw [HR0.out]; exact Nat.le_refl _
  have HRr := Lib.hid hA2
  clear hA2
  refine (Int_any _ (x : Int) (by omega) (by omega)).mono ?_
  rintro e w4 ⟨v4, rfl, hz4, hk4⟩
  obtain ⟨m4, a4, l4, c4, rfl⟩ := hz4.shape
  go_wp2_with fail
  refine (Int_any _ (y : Int) (by omega) (by omega)).mono ?_
  rintro e w5 ⟨v5, rfl, hz5, hk5⟩
  obtain ⟨m5, a5, l5, c5, rfl⟩ := hz5.shape
  have hz4' := hz4.kept hk5
  clear hz4
  go_wp2_with fail
  refine (Over_any _ _ _ (x : Int) (y : Int) hz4' hz5 (by omega)).mono ?_
  rintro e w6 ⟨v6, rfl, hq6, hk6⟩
  obtain ⟨n0, n1, n2, n3, n4, n5, n6, n7, rfl, _, _⟩ := hq6.shape
  go_wp2_with fail
  refine (Lowest_any _ _ (x : Int) (y : Int) hq6 (by omega) (by omega) (by omega) (by omega)).mono ?_
  rintro e w7 ⟨v7, rfl, hq7, hk7⟩
  obtain ⟨p0, p1, p2, p3, p4, p5, p6, p7, rfl, hn7, hd7⟩ := hq7.shape
  have hKW6 : Kept W w7 := ((hk4.trans hk5).trans hk6).trans hk7
  have hR6 := hKW6.row HRr.out
  obtain ⟨f0, f1, f2, f3, f4, f5, f6, f7⟩ := bx4_cells hR6
  have hRF := bx4_set hR6 (.bool p0) (.slice p1 p2 p3) (.bool p4) (.slice p5 p6 p7)
  have hKF : Kept w ((((w7.setCell ⟨r0, 0, none⟩ (.bool p0)).setCell ⟨r0, 1, none⟩ (.slice p1 p2 p3)).setCell ⟨r0, 2, none⟩ (.bool p4)).setCell ⟨r0, 3, none⟩ (.slice p5 p6 p7)) := ((((hKwW.trans hKW6).setCell hrw _).setCell hrw _).setCell hrw _).setCell hrw _
  have hX : KeptX (fun k => k = r0) w7 ((((w7.setCell ⟨r0, 0, none⟩ (.bool p0)).setCell ⟨r0, 1, none⟩ (.slice p1 p2 p3)).setCell ⟨r0, 2, none⟩ (.bool p4)).setCell ⟨r0, 3, none⟩ (.slice p5 p6 p7)) := ((((KeptX.refl (fun k => k = r0) w7).setIn 0 _).setIn 1 _).setIn 2 _).setIn 3 _
  have HN7 := Lib.hid (hn7.keptBoxN hX hR6 (bx4_noint _ _ _ _ _ _ _ _))
  have HD7 := Lib.hid (hd7.keptBoxN hX hR6 (bx4_noint _ _ _ _ _ _ _ _))
  obtain ⟨g0, g1, g2, g3, _⟩ := bx4_cells hRF
  clear hR6 hRF hX hz4' hz5 hq6 hq7 hn7 hd7
  go_wp2_with fail
  generalize ((((w7.setCell ⟨r0, 0, none⟩ (.bool p0)).setCell ⟨r0, 1, none⟩ (.slice p1 p2 p3)).setCell ⟨r0, 2, none⟩ (.bool p4)).setCell ⟨r0, 3, none⟩ (.slice p5 p6 p7)) = WF at *
  exact bodyPost_ret (v := .agg #[.bool p0, .slice p1 p2 p3, .bool p4, .slice p5 p6 p7]) (by simp [results, Tryd.results16, go_sem, g0, g1, g2, g3]) rfl ⟨_, rfl, ⟨p0, _, p4, _, rfl, HN7.out, HD7.out⟩, hKF⟩
end Go.Proofs.YthigeafojekclaaDoor.Num
namespace Go.Proofs.YthigeafojekclaaDoor
open Go.RowKit Go.Deep Go.Shelf
/-- the first m products around -/
def arouP (n : Nat) (p : Nat → Bool) (k m : Nat) : Int := sumZ (fun i => sg (p i) * sg (p ((k + i) % n))) m
theorem arouP_le (n : Nat) (p : Nat → Bool) (k m : Nat) : -(m : Int) ≤ arouP n p k m ∧ arouP n p k m ≤ m := lkN_bound _ _ _
set_option maxRecDepth 100000 in
set_option maxHeartbeats 4000000 in
theorem rAround_any (w : World) (n : Nat) (p : Nat → Bool) (hn : n ≤ 100) :
    Calls Tryd.prog 13 #[.string (rowS n p)] w (IntsPost w n (arouN n p)) := by
  obtain ⟨i0, hi, hz0, hz1, hz2⟩ := info_parts Tryd.info3
  have SG := Lib.hid (fun W j (h : j < n) => show Calls Tryd.prog 30 #[.string (rowS n p), .int .i64 (j : Int)] W fun e w' => e = .returned (.int .i64 (sg (p j))) ∧ W = w' by
    have h2 := Sign_any W (rowS n p) j (by rw [rowS_size]; exact h)
    rw [sgS_row h] at h2
    exact h2)
  have hss : (rowS n p).size = n := rowS_size _ _
  have hO0 := own_zero w w.heap.size 3 (Nat.le_refl _)
  have hK0 : Kept w (w.alloc (.cells #[] 3)) := (Kept.refl w).alloc _
  have hs0 : w.heap.size < (w.alloc (.cells #[] 3)).heap.size := by simp
  obtain ⟨G, HG⟩ : ∃ G, Hid (G = w.heap.size) := ⟨_, rfl⟩
  generalize rowS n p = s at *
  go_enter Tryd.func13, Tryd.ntmps13
  go_wp2_with fail
  generalize w.alloc (.cells #[] 3) = W0 at *
  go_loopg [3, 4] n (fun g s3 s4 wr => ∃ k : Nat, k ≤ n ∧ g = n - k ∧ s4 = .int .i64 k ∧ Kept w wr ∧ wr.ownsRow w.heap.size 3 1 s3 k (ints (arouN n p) k) ∧ w.heap.size < wr.heap.size)
  case atStart => exact ⟨0, Nat.zero_le _, rfl, rfl, hK0, hO0, hs0⟩
  case round =>
    obtain ⟨k, hk, rfl, rfl, hK, hO, hsz⟩ := hrel
    clear hK0 hO0 hs0
    obtain ⟨va, vcap, rfl⟩ := own_shape hO
    by_cases hlt : k < n
    · have s2 : (k : Int) < (n : Int) := by omega
      obtain ⟨Wo, rfl⟩ : ∃ Wo : World, Wo = wr := ⟨_, rfl⟩
      go_wp2_with fail
      go_loopg [5, 6] n (fun g s5 s6 wi => ∃ i : Nat, i ≤ n ∧ g = n - i ∧ s6 = .int .i64 i ∧ s5 = .int .i64 (arouP n p k i) ∧ Quiet Wo wi)
      case atStart => exact ⟨0, Nat.zero_le _, rfl, rfl, rfl, Quiet.refl _⟩
      case round =>
        obtain ⟨i, hi2, rfl, rfl, rfl, hQ⟩ := hrel
        have hbi := arouP_le n p k i
        by_cases hlt2 : i < n
        · have s3 : (i : Int) < (n : Int) := by omega
          have s0 : ¬ (n : Int) = 0 := by omega
          obtain ⟨q, HQ⟩ : ∃ q : Nat, Hid (q = (k + i) % n) := ⟨_, rfl⟩
          have hq : q < n := by rw [HQ.out]; exact Nat.mod_lt _ (by omega)
          have e1 : Int.tmod ((i : Int) + (k : Int)) (n : Int) = (q : Int) := by
            rw [HQ.out, show (i : Int) + (k : Int) = ((k + i : Nat) : Int) by omega]
            exact (Int.ofNat_tmod (k + i) n).symm
          have SG1 := Lib.hid (fun W => SG.out W i hlt2)
          have SG2 := Lib.hid (fun W => SG.out W q hq)
          have hnx : arouP n p k (i + 1) = arouP n p k i + sg (p i) * sg (p q) := by rw [HQ.out]; rfl
          have hp : -1 ≤ sg (p i) * sg (p q) ∧ sg (p i) * sg (p q) ≤ 1 := by rw [sg_mul]; rcases sg_cases (p i ^^ p q) with h | h <;> rw [h] <;> omega
          have hb2 := arouP_le n p k (i + 1)
          obtain ⟨z, HZ⟩ : ∃ z, Hid (z = arouP n p k (i + 1)) := ⟨_, rfl⟩
          rw [← HZ.out] at hnx hb2
          generalize arouP n p k i = y at *
          generalize sg (p i) = a at *
          generalize sg (p q) = b at *
          obtain ⟨x, HX⟩ : ∃ x, x = a * b := ⟨_, rfl⟩
          rw [← HX] at hnx hp
          have e2 : a * b = x := HX.symm
          have v1 : IntKind.i64.wrap x = x := IntWalk.i64_in _ (by omega)
          have v2 : wrap64 x = x := IntWalk.wrap64_in _ (by omega)
          have v3 : IntKind.i64.wrap (y + x) = z := by rw [hnx]; exact IntWalk.i64_in _ (by omega)
          have v4 : wrap64 (y + x) = z := by rw [hnx]; exact IntWalk.wrap64_in _ (by omega)
          have v5 : wrap64 ((i : Int) + (k : Int)) = (i : Int) + (k : Int) := IntWalk.wrap64_in _ (by omega)
          clear HX hnx HQ
          go_wp2_with fail
          go_quiet ((go_at_call 30; first | exact quietS (SG1.out _) | exact quietS (SG2.out _)))
          go_wp2_with fail
          go_roundg (n - (i + 1))
          case measure => omega
          case rel => exact ⟨i + 1, by omega, rfl, by first | rfl | go_num, by first | (rw [← HZ.out]; done) | (rw [← HZ.out]; simp only [v2, v4]; done) | (rw [← HZ.out]; simp only [v1, v3]; done), hQ.drewN _⟩
        · obtain rfl : i = n := by omega
          have s3 : ¬ (i : Int) < (i : Int) := by omega
          have hK1 := hK.trans hQ.kept
          have hO1 := own_kept hO hQ.kept
          have hsz1 := Nat.lt_of_lt_of_le hsz hQ.kept.size
          have hnx : Hid (ints (arouN i p) (k + 1) = ints (arouN i p) k ++ [.int .i64 (arouP i p k i)]) := ints_succ _ _
          generalize arouP i p k i = z at *
          clear hK hO hsz hQ
          go_wp2_with (first | (at_builtin; refine wpList_append_own _ rfl _ _ 23 rfl w.heap.size 3 i0 (.int .i64 0) 1 8 Tryd.underlying23 hi hz0 hz1 hz2 rfl (by decide) _ _ _ rfl (hO1.alloc _) ⟨_, 0, none⟩ 1 1 [.int .i64 z] rfl rfl (cell_one_new _ _ _) ?c2 ?c3 ?c4 ?c5 ?_))
          case c2 => simp [Value.oneCell']
          case c3 => unfold maxLen; omega
          case c4 => omega
          case c5 => (try simp); omega
          intro ov' w2 hO3 hgr _
          have hK2 : Kept w w2 := (hK1.alloc _).grew hgr (hO1.alloc _) (Nat.le_refl _)
          have hO4 : w2.ownsRow w.heap.size 3 1 ov' (k + 1) (ints (arouN i p) (k + 1)) := by rw [hnx.out]; exact hO3
          have hsz2 : w.heap.size < w2.heap.size := by have := hgr.size; simp at this; omega
          clear hO3 hgr hO1
          go_wp2_with fail
          go_roundg (i - (k + 1))
          case measure => omega
          case rel => exact ⟨k + 1, by omega, rfl, by first | rfl | go_num, hK2, hO4, hsz2⟩
    · obtain rfl : k = n := by omega
      have s2 : ¬ (k : Int) < (k : Int) := by omega
      go_wp2_with fail
      go_ret
      exact ⟨_, rfl, hK, hO⟩
end Go.Proofs.YthigeafojekclaaDoor
