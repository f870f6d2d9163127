/-
  GaitSums.
-/
import Derived.Test.YtcgbfhjefepafabDoorLv
import Derived.Test.YtcgbfhjefepafabDoorRc
namespace Go.Proofs.YtcgbfhjefepafabDoor
open Go.RowKit Go.Deep Go.Shelf

set_option maxRecDepth 100000 in
set_option maxHeartbeats 8000000 in
theorem sums_any (w : World) (v : Value) (xn : Nat) (Z : Nat → Nat) (hV : BytesAt w v xn Z) (hZ : ∀ i, Z i < 256) (hxn : xn ≤ maxLen) : Calls Tryd.prog 7 #[v] w (LivesPost w) := by
  obtain ⟨_, _, _, _, rfl, _, _⟩ := id hV
  have MA := Lib.hid (made_any w _ xn 64 Z hV hZ hxn (by omega))
  have LV := Lib.hid lives_any
  have SG := Lib.hid (fun (W : World) (s : ByteArray) (i : Nat) (h : i < s.size) => Sign_any W s i h)
  clear hZ hV
  go_enter Tryd.func7, Tryd.ntmps7
  go_wp2_with (go_at_call 20; refine MA.out.mono ?_; rintro e w1 ⟨n, p, rfl, hk1, hn1, hn2, _⟩)
  have LI := Lib.hid (fun W => Like_any W (rowS n p) (by rw [rowS_size]; omega))
  have AR := Lib.hid (fun W => Around_any W (rowS n p) (by rw [rowS_size]; omega))
  unfold LikeAns at LI AR
  have hn64 : n ≤ 64 := by omega
  simp only [rowC_rowS hn1 hn64, if_true, rowS_size] at LI AR
  have hl : Hid (∀ k, k < n → likeS (rowS n p) n k = likeN n p k) := fun k hk => likeS_row n k p (by omega)
  have ha : Hid (∀ k, k < n → arouS (rowS n p) n k = arouN n p k) := fun k hk => arouS_row n k p hk
  have hS : (rowS n p).size = n := rowS_size _ _
  have hsg : Hid (∀ k, k < n → sgS (rowS n p) k = sg (p k)) := fun k hk => sgS_row hk
  generalize likeS (rowS n p) n = f at *
  generalize arouS (rowS n p) n = g at *
  generalize rowS n p = S at *
  have s0 : (0 : Int) < (n : Int) := by omega
  have s00 : (0 : Int) ≤ 0 := by omega
  have hz : Hid (g 0 = n) := by show _ = _; rw [ha.out 0 (by omega), arouN_zero]
  go_wp2_with (first
    | (go_at_call 21; refine (LI.out _).mono ?_; rintro e w2 ⟨hk2, r1, rfl, hr10, hr1⟩)
    | (go_at_call 22; refine (AR.out _).mono ?_; rintro e w3 ⟨hk3, r2, rfl, hr20, hr2⟩; have x0 := hr2.cell (show 0 < n by omega); rw [hz.out] at x0; have hr3 := hk3.row hr1)
    | (go_at_call 12; refine (LV.out _).mono ?_; rintro e w4 ⟨rfl, hk4⟩))
  have hK4 : Kept w w4 := ((hk1.trans hk2).trans hk3).trans hk4
  have q1 := hk4.row hr3
  have q2 := hk4.row hr2
  clear hk1 hk2 hk3 hk4 hr1 hr2 hr3 x0 LI AR LV MA
  go_loopg [8, 9, 10] n (fun gg s8 s9 s10 wr => ∃ (k : Nat) (x y : Int), k ≤ n ∧ gg = n - k ∧ s10 = .int .i64 k ∧ s8 = .int .i64 x ∧ s9 = .int .i64 y ∧ Quiet w4 wr ∧ -(k : Int) ≤ x ∧ x ≤ k ∧ -(64 * (k : Int)) ≤ y ∧ y ≤ 64 * k ∧ Hid (x = sumZ (fun i => sg (p i)) k) ∧ Hid (y = sumZ (fun i => arouN n p i) k))
  case atStart => exact ⟨0, 0, 0, Nat.zero_le _, rfl, rfl, rfl, rfl, Quiet.refl _, by omega, by omega, by omega, by omega, rfl, rfl⟩
  case round =>
    obtain ⟨k, x, y, hk, rfl, rfl, rfl, rfl, hQ, hx1, hx2, hy1, hy2, hx, hy⟩ := hrel
    by_cases hlt : k < n
    · have t1 := hQ.kept.row q1 |>.cell hlt
      have t2 := hQ.kept.row q2 |>.cell hlt
      have s1 : (k : Int) < (n : Int) := by omega
      have s2 : (0 : Int) ≤ (k : Int) := by omega
      have hav := ha.out k hlt
      have SGk := Lib.hid (fun W => SG.out W S k (by omega))
      have hsk := hsg.out k hlt
      have hsb := sg_cases (p k)
      rw [← hsk] at hsb
      have hab := arouN_bound n p k
      rw [← hav] at hab
      have hnx : Hid (sumZ (fun i => sg (p i)) (k + 1) = x + sgS S k) := by show _ = _; rw [hx.out, hsk]; rfl
      have hny : Hid (sumZ (fun i => arouN n p i) (k + 1) = y + g k) := by show _ = _; rw [hy.out, hav]; rfl
      obtain ⟨z, HZ⟩ : ∃ z, Hid (z = g k) := ⟨_, rfl⟩
      have htw : Hid (0 < k → z = f k + f (n - k)) := fun h0 => by
        rw [HZ.out, hav, hl.out k hlt, hl.out (n - k) (by omega)]
        exact around_two n p h0 hlt
      rw [← HZ.out] at t2 hab hny
      generalize sgS S k = sk at *
      obtain ⟨hz1, hz2⟩ := hab
      have hs1 : -1 ≤ sk := by omega
      have hs2 : sk ≤ 1 := by omega
      have w1 : wrap64 (y + z) = y + z := IntWalk.wrap64_in _ (by omega)
      have w2 : IntKind.i64.wrap (y + z) = y + z := IntWalk.i64_in _ (by omega)
      have w3 : IntKind.i64.wrap (x + sk) = x + sk := IntWalk.i64_in _ (by omega)
      clear hsb hsk hav
      by_cases h0 : k = 0
      · subst h0
        go_wp2_with fail
        go_quiet (fail)
        go_wp2_with fail
        go_region_with (first | (go_at_call 23; refine (SGk.out _).mono ?_; rintro e w' ⟨rfl, rfl⟩))
        all_goals
          go_wp2_with fail
          go_roundg (n - (0 + 1))
          case measure => omega
          case rel => exact ⟨0 + 1, x + sk, y + z, by omega, rfl, by first | rfl | go_num, rfl, rfl, by repeat (first | exact hQ | apply Quiet.drewN | apply Quiet.drew), by omega, by omega, by omega, by omega, hnx.out.symm, hny.out.symm⟩
      · have h0p : 0 < k := by omega
        have hd : decide (0 < k) = true := decide_eq_true h0p
        have tw := htw.out h0p
        have t3 := hQ.kept.row q1 |>.cell (show n - k < n by omega)
        have ec : (n : Int) - (k : Int) = ((n - k : Nat) : Int) := by omega
        obtain ⟨m, HM⟩ : ∃ m, Hid (m = n - k) := ⟨_, rfl⟩
        rw [← HM.out] at t3 ec tw
        have hm : m < n := by rw [HM.out]; omega
        have s3 : (m : Int) < (n : Int) := by omega
        have s4 : (0 : Int) ≤ (m : Int) := by omega
        have w4 : IntKind.i64.wrap (m : Int) = (m : Int) := IntWalk.i64_in _ (by omega)
        have w5 : IntKind.i64.wrap (f k + f m) = f k + f m := IntWalk.i64_in _ (by omega)
        have e1 : (z != f k + f m) = false := by rw [tw]; simp
        clear tw h0 htw
        go_wp2_with fail
        go_quiet (fail)
        go_wp2_with fail
        go_region_with (first | (go_at_call 23; refine (SGk.out _).mono ?_; rintro e w' ⟨rfl, rfl⟩))
        all_goals
          go_wp2_with fail
          go_roundg (n - (k + 1))
          case measure => omega
          case rel => exact ⟨k + 1, x + sk, y + z, by omega, rfl, by first | rfl | go_num, rfl, rfl, by repeat (first | exact hQ | apply Quiet.drewN | apply Quiet.drew), by omega, by omega, by omega, by omega, hnx.out.symm, hny.out.symm⟩
    · obtain rfl : k = n := by omega
      have hend : y = x * x := by rw [hx.out, hy.out]; exact around_all k p
      have hxx := sq_bound hx1 hx2
      have hkk : (k : Int) * k ≤ 64 * 64 := by
        have : k * k ≤ 64 * 64 := Nat.mul_le_mul hn64 hn64
        exact_mod_cast this
      have w1 : wrap64 (x * x) = x * x := IntWalk.wrap64_in _ (by omega)
      have e1 : (y == x * x) = true := by rw [hend]; simp
      have s1 : ¬ (k : Int) < (k : Int) := by omega
      clear hend hx hy
      go_wp2_with fail
      go_ret
      exact ⟨rfl, hK4.trans hQ.kept⟩
end Go.Proofs.YtcgbfhjefepafabDoor
