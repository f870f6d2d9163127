/-
  The reference of gait: Power, Transform, Signs, Bent.
-/
import Derived.Test.YtofgadehblpoiaaDoorZb
import Derived.Test.YtofgadehblpoiaaDoorYc
import Derived.Test.YtofgadehblpoiaaDoorRa
namespace Go.Proofs.YtofgadehblpoiaaDoor
open Go.RowKit Go.Deep Go.Shelf

set_option maxRecDepth 100000 in
set_option maxHeartbeats 4000000 in
theorem rPower_any (w : World) (n : Nat) (hn : n < 128) : Calls Tryd.prog 37 #[.int .i64 n] w fun e w' => e = .returned (.int .i64 (pwr n)) ∧ w = w' := by
  go_enter Tryd.func37, Tryd.ntmps37
  go_wp2_with fail
  go_loopg [3] 20 (fun g s3 wr => ∃ k : Nat, k ≤ 20 ∧ g = 20 - k ∧ s3 = .int .i64 k ∧ w = wr ∧ Hid (∀ j, j < k → n ≠ 2 ^ j))
  case atStart => exact ⟨0, Nat.zero_le _, rfl, rfl, rfl, fun j hj => absurd hj (by omega)⟩
  case round =>
    obtain ⟨k, hk, rfl, rfl, rfl, hA⟩ := hrel
    by_cases hlt : k < 20
    · have s2 : (k : Int) < 20 := by omega
      have s3 : (0 : Int) ≤ (k : Int) := by omega
      have hN : 2 ^ k ≤ 2 ^ 20 := Nat.pow_le_pow_right (by omega) (by omega)
      obtain ⟨N, HN⟩ : ∃ N : Nat, Hid (N = 2 ^ k) := ⟨2 ^ k, rfl⟩
      have e0 : (2 : Int) ^ k = (N : Int) := by rw [HN.out]; simp
      rw [← HN.out] at hN
      have hw1 : IntKind.i64.wrap (N : Int) = (N : Int) := IntWalk.i64_in _ (by omega)
      have hw2 : wrap64 (N : Int) = (N : Int) := IntWalk.wrap64_in _ (by omega)
      by_cases h : n = N
      · have e1 : ((n : Int) == (N : Int)) = true := by simp [h]
        have hk7 : k < 7 := by
          rcases Nat.lt_or_ge k 7 with h7 | h7
          · exact h7
          · have : 2 ^ 7 ≤ 2 ^ k := Nat.pow_le_pow_right (by omega) h7
            rw [← HN.out] at this
            omega
        have hres : Hid (pwr n = (k : Int)) := by show _ = _; rw [h, HN.out]; exact pwr_pow ⟨k, hk7⟩
        clear hA HN
        go_wp2_with fail
        go_ret
        exact ⟨ret_int hres.out.symm, rfl⟩
      · have e1 : ((n : Int) == (N : Int)) = false := by simp; omega
        have hA2 : Hid (∀ j, j < k + 1 → n ≠ 2 ^ j) := fun j hj => by
          by_cases e : j = k
          · subst e; rw [← HN.out]; exact h
          · exact hA.out j (by omega)
        clear hA HN
        go_wp2_with fail
        go_roundg (20 - (k + 1))
        case measure => omega
        case rel => exact ⟨k + 1, by omega, rfl, by first | rfl | go_num, rfl, hA2.out⟩
    · obtain rfl : k = 20 := by omega
      have hres : Hid (pwr n = -1) := pwr_none hA.out
      clear hA
      go_wp2_with fail
      go_ret
      exact ⟨ret_int hres.out.symm, rfl⟩
theorem ints_congr {f g : Nat → Int} {k : Nat} (h : ∀ i, i < k → f i = g i) : ints f k = ints g k := by
  unfold ints
  apply List.map_congr_left
  intro i hi
  rw [h i (by simpa using hi)]
set_option maxRecDepth 100000 in
set_option maxHeartbeats 8000000 in
theorem rTransform_any (w : World) (v : Value) (n : Nat) (l : Nat → Int) (hV : IntsAt w v n l) (hn : n ≤ 64) (hl : ∀ j, j < n → -1000000 ≤ l j ∧ l j ≤ 1000000) :
    Calls Tryd.prog 38 #[v] w (IntsPost w n (trN n l)) := by
  obtain ⟨i0, hi, hz0, hz1, hz2⟩ := info_parts Tryd.info3
  obtain ⟨a, b, o, cap, rfl, ha, hc⟩ := hV
  have HC := Lib.hid hc
  have HL := Lib.hid hl
  have BO := Lib.hid (fun W (i j : Nat) (hi : i < 128) (hj : j < 128) => rboth_any W i j hi hj)
  have HB := Lib.hid (fun i m (h : m ≤ n) => trP_le (l := l) (c := 1000000) (i := i) (m := m) (fun j hj => hl j (by omega)))
  have hO0 := own_zero w w.heap.size 3 (Nat.le_refl _)
  have hK0 : Kept w (w.alloc (.cells #[] 3)) := (Kept.refl w).alloc _
  clear hc hl
  go_enter Tryd.func38, Tryd.ntmps38
  go_wp2_with fail
  have hsz0 : w.heap.size < (w.alloc (.cells #[] 3)).heap.size := by simp
  obtain ⟨G, HG⟩ : ∃ G, Hid (G = w.heap.size) := ⟨_, rfl⟩
  generalize w.alloc (.cells #[] 3) = W0 at *
  go_loopg [3, 4] n (fun g s3 s4 wr => ∃ i : Nat, i ≤ n ∧ g = n - i ∧ s4 = .int .i64 i ∧ Kept w wr ∧ wr.ownsRow w.heap.size 3 1 s3 i (ints (trN n l) i) ∧ w.heap.size < wr.heap.size)
  case atStart => exact ⟨0, Nat.zero_le _, rfl, rfl, hK0, hO0, hsz0⟩
  case round =>
    obtain ⟨i, hi1, rfl, rfl, hK, hO, hsz⟩ := hrel
    clear hK0 hO0 hsz0
    obtain ⟨va, vcap, rfl⟩ := own_shape hO
    by_cases hlt : i < n
    · have s3 : (i : Int) < (n : Int) := by omega
      obtain rfl := ha (by omega)
      obtain ⟨Wo, rfl⟩ : ∃ Wo : World, Wo = wr := ⟨_, rfl⟩
      go_wp2_with fail
      go_loopg [5, 6] n (fun g s5 s6 wi => ∃ j : Nat, j ≤ n ∧ g = n - j ∧ s5 = .int .i64 (trP l i j) ∧ s6 = .int .i64 j ∧ Quiet Wo wi)
      case atStart => exact ⟨0, Nat.zero_le _, rfl, rfl, rfl, Quiet.refl _⟩
      case round =>
        obtain ⟨j, hj, rfl, rfl, rfl, hQ⟩ := hrel
        by_cases hlt2 : j < n
        · have s4 : (j : Int) < (n : Int) := by omega
          have s5 : (0 : Int) ≤ (j : Int) := by omega
          have t0 := hQ.kept.cellSome (hK.cellSome (HC.out j hlt2))
          (try dsimp only at t0)
          have hb := HL.out j hlt2
          have hB := HB.out i j (by omega)
          have hB2 := HB.out i (j + 1) (by omega)
          have BOj := Lib.hid (fun W => BO.out W i j (by omega) (by omega))
          have hnx : Hid (trP l i (j + 1) = trP l i j + l j * sg (par i j)) := rfl
          have hbd : Hid (par i j = (pop (i &&& j) % 2 == 1)) := rfl
          have hp := popF_le 7 (i &&& j)
          rw [show popF 7 (i &&& j) = pop (i &&& j) from rfl] at hp
          generalize pop (i &&& j) = p at *
          obtain ⟨q, HQ⟩ : ∃ q : Nat, Hid (q = p % 2) := ⟨_, rfl⟩
          have hq2 : q < 2 := by rw [HQ.out]; omega
          have et : Int.tmod (p : Int) 2 = (q : Int) := by rw [HQ.out]; exact (Int.ofNat_tmod p 2).symm
          rw [← HQ.out] at hbd
          obtain ⟨x, HX⟩ : ∃ x, Hid (x = l j) := ⟨_, rfl⟩
          obtain ⟨s, HS⟩ : ∃ s, s = trP l i j := ⟨_, rfl⟩
          rw [← HX.out] at t0 hb hnx
          rw [← HS] at hB hnx ⊢
          have hm1 : (1000000 : Int) * (j : Int) ≤ 64000000 := by omega
          have hm2 : (1000000 : Int) * ((j + 1 : Nat) : Int) ≤ 64000000 := by omega
          obtain ⟨z, HZ⟩ : ∃ z, z = trP l i (j + 1) := ⟨_, rfl⟩
          rw [← HZ] at hB2 hnx
          cases hpar : par i j with
          | false =>
            rw [hpar] at hbd hnx
            obtain rfl : q = 0 := by
              have h1 : q ≠ 1 := fun e => by have := hbd.out; simp [e] at this
              omega
            have hres : s + x = z := by rw [hnx.out]; simp [sg]
            have e0 : x * 1 = x := Int.mul_one x
            have e3 : IntKind.i64.wrap x = x := IntWalk.i64_in _ (by omega)
            have e4 : wrap64 x = x := IntWalk.wrap64_in _ (by omega)
            have e5 : IntKind.i64.wrap (s + x) = z := by rw [hres]; exact IntWalk.i64_in _ (by omega)
            have e6 : wrap64 (s + x) = z := by rw [hres]; exact IntWalk.wrap64_in _ (by omega)
            clear hnx HX HS HQ hbd hpar hres
            go_wp2_with fail
            go_quiet ((go_at_call 65; exact quietS (BOj.out _)))
            go_wp2_with fail
            go_roundg (n - (j + 1))
            case measure => omega
            case rel => exact ⟨j + 1, by omega, rfl, by first | (rw [← HZ]; done) | (rw [← HZ]; rfl) | go_num, by first | rfl | go_num, hQ.drewN _⟩
          | true =>
            rw [hpar] at hbd hnx
            obtain rfl : q = 1 := by simpa using hbd.out.symm
            have hres : s + -x = z := by rw [hnx.out]; simp [sg]
            have e0 : x * -1 = -x := by omega
            have e3 : IntKind.i64.wrap (-x) = -x := IntWalk.i64_in _ (by omega)
            have e4 : wrap64 (-x) = -x := IntWalk.wrap64_in _ (by omega)
            have e5 : IntKind.i64.wrap (s + -x) = z := by rw [hres]; exact IntWalk.i64_in _ (by omega)
            have e6 : wrap64 (s + -x) = z := by rw [hres]; exact IntWalk.wrap64_in _ (by omega)
            clear hnx HX HS HQ hbd hpar hres
            go_wp2_with fail
            go_quiet ((go_at_call 65; exact quietS (BOj.out _)))
            go_wp2_with fail
            go_roundg (n - (j + 1))
            case measure => omega
            case rel => exact ⟨j + 1, by omega, rfl, by first | (rw [← HZ]; done) | (rw [← HZ]; rfl) | go_num, by first | rfl | go_num, hQ.drewN _⟩
        · obtain rfl : j = n := by omega
          have hK1 := hK.trans hQ.kept
          have hO1 := own_kept hO hQ.kept
          have hsz1 := Nat.lt_of_lt_of_le hsz hQ.kept.size
          have hnx : Hid (ints (trN j l) (i + 1) = ints (trN j l) i ++ [.int .i64 (trP l i j)]) := ints_succ _ _
          generalize trP l i j = z at *
          clear hK hO hsz hQ
          go_wp2_with (first | (at_builtin; refine wpList_append_own _ rfl _ _ 23 rfl w.heap.size 3 i0 (.int .i64 0) 1 8 Tryd.underlying23 hi hz0 hz1 hz2 rfl (by decide) _ _ _ rfl (hO1.alloc _) ⟨_, 0, none⟩ 1 1 [.int .i64 z] rfl rfl (cell_one_new _ _ _) ?c2 ?c3 ?c4 ?c5 ?_))
          case c2 => simp [Value.oneCell']
          case c3 => unfold maxLen; omega
          case c4 => omega
          case c5 => (try simp); omega
          intro ov' w2 hO3 hgr _
          have hK2 : Kept w w2 := (hK1.alloc _).grew hgr (hO1.alloc _) (Nat.le_refl _)
          have hO4 : w2.ownsRow w.heap.size 3 1 ov' (i + 1) (ints (trN j l) (i + 1)) := by rw [hnx.out]; exact hO3
          have hsz2 : w.heap.size < w2.heap.size := by have := hgr.size; simp at this; omega
          clear hO3 hgr hO1
          go_wp2_with fail
          go_roundg (j - (i + 1))
          case measure => omega
          case rel => exact ⟨i + 1, by omega, rfl, by first | rfl | go_num, hK2, hO4, hsz2⟩
    · obtain rfl : i = n := by omega
      go_wp2_with fail
      go_ret
      exact ⟨_, rfl, hK, hO⟩
set_option maxRecDepth 100000 in
set_option maxHeartbeats 4000000 in
theorem rSigns_any (w : World) (s : ByteArray) (n : Nat) (hs : s.size = n) (hn : n ≤ 100) :
    Calls Tryd.prog 50 #[.string s] w (IntsPost w n (sgS s)) := by
  obtain ⟨i0, hi, hz0, hz1, hz2⟩ := info_parts Tryd.info3
  have SG := Lib.hid (fun (W : World) (i : Nat) (h : i < s.size) => Sign_any W s i h)
  have hO0 := own_zero w w.heap.size 3 (Nat.le_refl _)
  have hK0 : Kept w (w.alloc (.cells #[] 3)) := (Kept.refl w).alloc _
  go_enter Tryd.func50, Tryd.ntmps50
  go_wp2_with fail
  have hsz0 : w.heap.size < (w.alloc (.cells #[] 3)).heap.size := by simp
  obtain ⟨G, HG⟩ : ∃ G, Hid (G = w.heap.size) := ⟨_, rfl⟩
  generalize w.alloc (.cells #[] 3) = W0 at *
  go_loopg [3, 4] n (fun g s3 s4 wr => ∃ i : Nat, i ≤ n ∧ g = n - i ∧ s4 = .int .i64 i ∧ Kept w wr ∧ wr.ownsRow w.heap.size 3 1 s3 i (ints (sgS s) i) ∧ w.heap.size < wr.heap.size)
  case atStart => exact ⟨0, Nat.zero_le _, rfl, rfl, hK0, hO0, hsz0⟩
  case round =>
    obtain ⟨i, hi1, rfl, rfl, hK, hO, hsz⟩ := hrel
    clear hK0 hO0 hsz0
    obtain ⟨va, vcap, rfl⟩ := own_shape hO
    by_cases hlt : i < n
    · have s3 : (i : Int) < (n : Int) := by omega
      have SGi := Lib.hid (fun W => SG.out W i (by omega))
      have hnx : Hid (ints (sgS s) (i + 1) = ints (sgS s) i ++ [.int .i64 (sgS s i)]) := ints_succ _ _
      generalize sgS s i = z at *
      go_wp2_with (first | (go_at_call 58; refine (SGi.out _).mono ?_; rintro e w1 ⟨rfl, rfl⟩) | (at_builtin; refine wpList_append_own _ rfl _ _ 23 rfl w.heap.size 3 i0 (.int .i64 0) 1 8 Tryd.underlying23 hi hz0 hz1 hz2 rfl (by decide) _ _ _ rfl (hO.alloc _) ⟨_, 0, none⟩ 1 1 [.int .i64 z] rfl rfl (cell_one_new _ _ _) ?c2 ?c3 ?c4 ?c5 ?_))
      case c2 => simp [Value.oneCell']
      case c3 => unfold maxLen; omega
      case c4 => omega
      case c5 => (try simp); omega
      intro ov' w2 hO3 hgr _
      have hK2 : Kept w w2 := (hK.alloc _).grew hgr (hO.alloc _) (Nat.le_refl _)
      have hO4 : w2.ownsRow w.heap.size 3 1 ov' (i + 1) (ints (sgS s) (i + 1)) := by rw [hnx.out]; exact hO3
      have hsz2 : w.heap.size < w2.heap.size := by have := hgr.size; simp at this; omega
      clear hO3 hgr hO
      go_wp2_with fail
      go_roundg (n - (i + 1))
      case measure => omega
      case rel => exact ⟨i + 1, by omega, rfl, by first | rfl | go_num, hK2, hO4, hsz2⟩
    · obtain rfl : i = n := by omega
      go_wp2_with fail
      go_ret
      exact ⟨_, rfl, hK, hO⟩
end Go.Proofs.YtofgadehblpoiaaDoor
