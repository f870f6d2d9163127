/-
  The reference of gait: Squares.
-/
import Derived.Test.YthigeafojekclaaDoorRc
import Derived.Test.YthigeafojekclaaDoorRa
import Derived.Test.YthigeafojekclaaDoorGl
namespace Go.Proofs.YthigeafojekclaaDoor
open Go.RowKit Go.Deep Go.Shelf

set_option maxRecDepth 100000 in
set_option maxHeartbeats 4000000 in
theorem rSquares_any (w : World) (s : ByteArray) (n : Nat) (hs : s.size = n) (hn : n ≤ 100) :
    Calls Tryd.prog 14 #[.string s] w fun e w' => e = .returned (.int .i64 (sumZ (fun k => likR s (k + 1) (n - (k + 1)) * likR s (k + 1) (n - (k + 1))) (n - 1))) ∧ Kept w w' := by
  have LK := Lib.hid (fun W => rLike_any W s n hs hn)
  have HB := Lib.hid (fun k => likR_bound s k (n - k))
  unfold IntsPost at LK
  obtain ⟨f, HF⟩ : ∃ f : Nat → Int, Hid (f = fun k => likR s k (n - k)) := ⟨_, rfl⟩
  have hf : ∀ k, likR s k (n - k) = f k := fun k => by rw [HF.out]
  simp only [hf] at LK HB ⊢
  go_enter Tryd.func14, Tryd.ntmps14
  go_wp2_with (go_at_call 12; refine (LK.out _).mono ?_; rintro e w1 ⟨v, rfl, hk1, hO⟩; have hI := ints_own hO; obtain ⟨a, b, o, cap, rfl, ha, hc⟩ := hI; have HC := Lib.hid hc; clear hc)
  go_loopg [4, 5] n (fun g s4 s5 wr => ∃ (k : Nat) (x : Int), (k < n ∨ n = 0) ∧ g + k = n ∧ s5 = .int .i64 ((k : Int) + 1) ∧ s4 = .int .i64 x ∧ Quiet w1 wr ∧ 0 ≤ x ∧ x ≤ 10000 * (k : Int) ∧ Hid (x = sumZ (fun k => f (k + 1) * f (k + 1)) k))
  case atStart => exact ⟨0, 0, by omega, by omega, rfl, rfl, Quiet.refl _, by omega, by omega, rfl⟩
  case round =>
    obtain ⟨k, x, hk, hg, rfl, rfl, hQ, hx0, hx1, hx⟩ := hrel
    by_cases hlt : k + 1 < n
    · obtain rfl := ha (by omega)
      have t0 := hQ.kept.cellSome (HC.out (k + 1) hlt)
      have s1 : (k : Int) + 1 < (n : Int) := by omega
      have s2 : (0 : Int) ≤ (k : Int) + 1 := by omega
      have ei : ((k : Int) + 1).toNat = k + 1 := by omega
      have hb := HB.out (k + 1)
      have hnx : Hid (sumZ (fun k => f (k + 1) * f (k + 1)) (k + 1) = x + f (k + 1) * f (k + 1)) := by show _ = _; rw [hx.out]; rfl
      generalize f (k + 1) = y at *
      have hsq := sq_bound (show -100 ≤ y by omega) (show y ≤ 100 by omega)
      obtain ⟨z, HZ⟩ : ∃ z, z = y * y := ⟨_, rfl⟩
      rw [← HZ] at hnx hsq
      have e1 : y * y = z := HZ.symm
      have w1' : IntKind.i64.wrap z = z := IntWalk.i64_in _ (by omega)
      have w2' : IntKind.i64.wrap (x + z) = x + z := IntWalk.i64_in _ (by omega)
      clear hx HZ hb
      go_wp2_with fail
      go_quiet (fail)
      go_wp2_with fail
      go_roundg (n - (k + 1))
      case measure => omega
      case rel => exact ⟨k + 1, x + z, by omega, by omega, by first | rfl | go_num, rfl, hQ.drewN _, by omega, by omega, hnx.out.symm⟩
    · have s1 : ¬ (k : Int) + 1 < (n : Int) := by omega
      have hres : Hid (x = sumZ (fun k => f (k + 1) * f (k + 1)) (n - 1)) := by
        show _ = _
        rw [hx.out]
        congr 1
        omega
      go_wp2_with fail
      go_ret
      exact ⟨ret_int hres.out, hk1.trans hQ.kept⟩
end Go.Proofs.YthigeafojekclaaDoor
