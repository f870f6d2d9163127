/-
  The reference of gait: row, in, Squares.
-/
import Derived.Test.YtcgbfhjefepafaaDoorRc
import Derived.Test.YtcgbfhjefepafaaDoorRa
import Derived.Test.YtcgbfhjefepafaaDoorGl
namespace Go.Proofs.YtcgbfhjefepafaaDoor
open Go.RowKit Go.Deep Go.Shelf

set_option maxRecDepth 100000 in
set_option maxHeartbeats 4000000 in
theorem rrow_any (w : World) (n x : Nat) (hn : n ≤ 20) (hx : x < 4611686018427387904) :
    Calls Tryd.prog 70 #[.int .i64 n, .int .i64 x] w fun e w' => e = .returned (.string (rowS n (bitP n x))) ∧ Quiet w w' := by
  obtain ⟨p, HP⟩ : ∃ p, Hid (p = bitP n x) := ⟨_, rfl⟩
  rw [← HP.out]
  have hr0 := row_zero p
  go_enter Tryd.func70, Tryd.ntmps70
  go_wp2_with fail
  rw [← hr0]
  go_loopg [5, 6] n (fun g s5 s6 wr => ∃ t : Nat, t ≤ n ∧ g = n - t ∧ s6 = .int .i64 ((n : Int) - 1 - t) ∧ s5 = .string (rowS t p) ∧ Quiet w wr)
  case atStart => exact ⟨0, Nat.zero_le _, rfl, by simp, rfl, Quiet.refl _⟩
  case round =>
    obtain ⟨t, ht, rfl, rfl, rfl, hQ⟩ := hrel
    have hsz : (rowS t p).size = t := rowS_size _ _
    by_cases hlt : t < n
    · have ec : (n : Int) - 1 - (t : Int) = ((n - 1 - t : Nat) : Int) := by omega
      have hbd : Hid (p t = ((x / 2 ^ (n - 1 - t) % 2 : Nat) == 1)) := by show _ = _; rw [HP.out]; exact bit_div x _
      have hnext : Hid ((n : Int) - 1 - ((t + 1 : Nat) : Int) = ((n - 1 - t : Nat) : Int) - 1) := by show _ = _; omega
      obtain ⟨i, HI⟩ : ∃ i, Hid (i = n - 1 - t) := ⟨_, rfl⟩
      rw [← HI.out] at hbd hnext ec
      have hi20 : i < 20 := by rw [HI.out]; omega
      rw [ec]
      have s2 : (0 : Int) ≤ (i : Int) := by omega
      have hsn := Lib.hid (row_snoc t p)
      have hpb := pm_bit (p t)
      have hTs : (rowS 1 (fun _ => p t)).size = 1 := rowS_size _ _
      unfold pmS at hpb
      obtain ⟨q, HQ⟩ : ∃ q : Nat, Hid (q = x / 2 ^ i % 2) := ⟨_, rfl⟩
      have hq2 : q < 2 := by rw [HQ.out]; omega
      have ea : bits .and .i64 ((x : Int) / 2 ^ i) 1 = (q : Int) := by
        rw [HQ.out, show ((x : Int) / 2 ^ i) = ((x / 2 ^ i : Nat) : Int) by simp, show (1 : Int) = ((1 : Nat) : Int) from rfl, and64 _ 1 (Nat.lt_of_le_of_lt (Nat.div_le_self _ _) hx) (by omega), Nat.and_one_is_mod]
      rw [← HQ.out] at hbd
      obtain ⟨b0, HB⟩ : ∃ b0, b0 = p t := ⟨_, rfl⟩
      rw [← HB] at hpb hTs hbd hsn
      have s4 : ¬ 9223372036854775807 < t + 1 := by omega
      obtain ⟨R', HR'⟩ : ∃ R', R' = rowS (t + 1) p := ⟨_, rfl⟩
      rw [← HR'] at hsn
      clear HQ HB
      cases b0 with
      | true =>
        obtain rfl : q = 1 := by simpa using hbd.out.symm
        have ea1 : bits .and .i64 ((x : Int) / 2 ^ i) 1 = 1 := ea
        clear ea
        simp only [if_true] at hpb
        generalize rowS 1 (fun _ => true) = T at *
        generalize rowS t p = R at *
        go_wp2_with fail
        go_quiet (fail)
        go_wp2_with fail
        go_roundg (n - (t + 1))
        case measure => omega
        case rel => exact ⟨t + 1, by omega, rfl, by rw [hnext.out], by rw [← HR', hsn.out], hQ.drewN _⟩
      | false =>
        obtain rfl : q = 0 := by
          have h1 : q ≠ 1 := fun e => by have := hbd.out; simp [e] at this
          omega
        have ea1 : bits .and .i64 ((x : Int) / 2 ^ i) 1 = 0 := ea
        clear ea
        simp only [Bool.false_eq_true, if_false] at hpb
        generalize rowS 1 (fun _ => false) = T at *
        generalize rowS t p = R at *
        go_wp2_with fail
        go_quiet (fail)
        go_wp2_with fail
        go_roundg (n - (t + 1))
        case measure => omega
        case rel => exact ⟨t + 1, by omega, rfl, by rw [hnext.out], by rw [← HR', hsn.out], hQ.drewN _⟩
    · obtain rfl : t = n := by omega
      have s2 : ¬ (0 : Int) ≤ (t : Int) - 1 - (t : Int) := by omega
      go_wp2_with fail
      go_ret
      exact ⟨rfl, hQ⟩
theorem rin_any (w : World) (x a b : Int) : Calls Tryd.prog 71 #[.int .i64 x, .int .i64 a, .int .i64 b] w fun e w' => e = .returned (.bool (decide (a ≤ x ∧ x ≤ b))) ∧ w = w' := by
  by_cases h1 : a ≤ x
  · go_enter Tryd.func71, Tryd.ntmps71
    go_wp2_with fail
    go_ret
    exact ⟨ret_bool (by by_cases e : x ≤ b <;> simp [h1, e]), rfl⟩
  · go_enter Tryd.func71, Tryd.ntmps71
    go_wp2_with fail
    go_ret
    exact ⟨ret_bool (by simp; omega), rfl⟩
set_option maxRecDepth 100000 in
set_option maxHeartbeats 4000000 in
theorem rSquares_any (w : World) (s : ByteArray) (n : Nat) (hs : s.size = n) (hn : n ≤ 100) :
    Calls Tryd.prog 24 #[.string s] w fun e w' => e = .returned (.int .i64 (sumZ (fun k => likR s (k + 1) (n - (k + 1)) * likR s (k + 1) (n - (k + 1))) (n - 1))) ∧ Kept w w' := by
  have LK := Lib.hid (fun W => rLike_any W s n hs hn)
  have HB := Lib.hid (fun k => likR_bound s k (n - k))
  unfold IntsPost at LK
  obtain ⟨f, HF⟩ : ∃ f : Nat → Int, Hid (f = fun k => likR s k (n - k)) := ⟨_, rfl⟩
  have hf : ∀ k, likR s k (n - k) = f k := fun k => by rw [HF.out]
  simp only [hf] at LK HB ⊢
  go_enter Tryd.func24, Tryd.ntmps24
  go_wp2_with (go_at_call 22; refine (LK.out _).mono ?_; rintro e w1 ⟨v, rfl, hk1, hO⟩; have hI := ints_own hO; obtain ⟨a, b, o, cap, rfl, ha, hc⟩ := hI; have HC := Lib.hid hc; clear hc)
  go_loopg [4, 5] n (fun g s4 s5 wr => ∃ (k : Nat) (x : Int), (k < n ∨ n = 0) ∧ g + k = n ∧ s5 = .int .i64 ((k : Int) + 1) ∧ s4 = .int .i64 x ∧ Quiet w1 wr ∧ 0 ≤ x ∧ x ≤ 10000 * (k : Int) ∧ Hid (x = sumZ (fun k => f (k + 1) * f (k + 1)) k))
  case atStart => exact ⟨0, 0, by omega, by omega, rfl, rfl, Quiet.refl _, by omega, by omega, rfl⟩
  case round =>
    obtain ⟨k, x, hk, hg, rfl, rfl, hQ, hx0, hx1, hx⟩ := hrel
    by_cases hlt : k + 1 < n
    · obtain rfl := ha (by omega)
      have t0 := hQ.kept.cellSome (HC.out (k + 1) hlt)
      have s1 : (k : Int) + 1 < (n : Int) := by omega
      have s2 : (0 : Int) ≤ (k : Int) + 1 := by omega
      have ei : ((k : Int) + 1).toNat = k + 1 := by omega
      have hb := HB.out (k + 1)
      have hnx : Hid (sumZ (fun k => f (k + 1) * f (k + 1)) (k + 1) = x + f (k + 1) * f (k + 1)) := by show _ = _; rw [hx.out]; rfl
      generalize f (k + 1) = y at *
      have hsq := sq_bound (show -100 ≤ y by omega) (show y ≤ 100 by omega)
      obtain ⟨z, HZ⟩ : ∃ z, z = y * y := ⟨_, rfl⟩
      rw [← HZ] at hnx hsq
      have e1 : y * y = z := HZ.symm
      have w1' : IntKind.i64.wrap z = z := IntWalk.i64_in _ (by omega)
      have w2' : IntKind.i64.wrap (x + z) = x + z := IntWalk.i64_in _ (by omega)
      clear hx HZ hb
      go_wp2_with fail
      go_quiet (fail)
      go_wp2_with fail
      go_roundg (n - (k + 1))
      case measure => omega
      case rel => exact ⟨k + 1, x + z, by omega, by omega, by first | rfl | go_num, rfl, hQ.drewN _, by omega, by omega, hnx.out.symm⟩
    · have s1 : ¬ (k : Int) + 1 < (n : Int) := by omega
      have hres : Hid (x = sumZ (fun k => f (k + 1) * f (k + 1)) (n - 1)) := by
        show _ = _
        rw [hx.out]
        congr 1
        omega
      go_wp2_with fail
      go_ret
      exact ⟨ret_int hres.out, hk1.trans hQ.kept⟩
end Go.Proofs.YtcgbfhjefepafaaDoor
