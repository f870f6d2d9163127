/-
  GaitGolay.
-/
import Derived.Test.YtcgbfhjefepafaaDoorLv
import Derived.Test.YtcgbfhjefepafaaDoorMl
import Derived.Test.YtcgbfhjefepafaaDoorKa
namespace Go.Proofs.YtcgbfhjefepafaaDoor
open Go.RowKit Go.Deep Go.Shelf

theorem gol1 : gx 1 < 2 ^ 1 := gx_some (x := 0) (y := 0) (by decide) (by decide) (by decide +kernel)
theorem gol2 : gx 2 < 2 ^ 2 := gx_some (x := 0) (y := 1) (by decide) (by decide) (by decide +kernel)
theorem gol4 : gx 4 < 2 ^ 4 := gx_some (x := 1) (y := 2) (by decide) (by decide) (by decide +kernel)
def glL (j : Nat) : Nat := if j = 0 then 1 else if j = 1 then 2 else if j = 2 then 4 else if j = 3 then 8 else 10
def okN (n : Nat) : Bool := n == 1 || n == 2 || n == 4 || n == 8 || n == 16 || n == 32 || n == 64 || n == 10 || n == 20 || n == 40
theorem glL_good (j : Nat) (hj : j < 5) : 1 ≤ glL j ∧ glL j ≤ 10 ∧ gx (glL j) < 2 ^ glL j ∧ okN (glL j) = true := by
  have : j = 0 ∨ j = 1 ∨ j = 2 ∨ j = 3 ∨ j = 4 := by omega
  rcases this with rfl | rfl | rfl | rfl | rfl
  · exact ⟨by decide, by decide, gol1, rfl⟩
  · exact ⟨by decide, by decide, gol2, rfl⟩
  · exact ⟨by decide, by decide, gol4, rfl⟩
  · exact ⟨by decide, by decide, gol8, rfl⟩
  · exact ⟨by decide, by decide, gol10, rfl⟩
theorem okN_two {n : Nat} (h : okN n = true) (h2 : n ≤ 32) : okN (n + n) = true := by
  have := allN_true.1 (show allN (fun n => !okN n || okN (n + n)) 33 = true by decide +kernel) n (by omega)
  simpa [h] using this
theorem okN_in {n : Nat} (h : okN n = true) : 1 ≤ n ∧ n ≤ 64 ∧ ∃ a b : Nat, a ≤ 8 ∧ b ≤ 8 ∧ a * a + b * b = n := by
  unfold okN at h
  simp only [Bool.or_eq_true, beq_iff_eq] at h
  rcases h with ((((((((h | h) | h) | h) | h) | h) | h) | h) | h) | h <;> subst h
  · exact ⟨by omega, by omega, 1, 0, by decide, by decide, rfl⟩
  · exact ⟨by omega, by omega, 1, 1, by decide, by decide, rfl⟩
  · exact ⟨by omega, by omega, 2, 0, by decide, by decide, rfl⟩
  · exact ⟨by omega, by omega, 2, 2, by decide, by decide, rfl⟩
  · exact ⟨by omega, by omega, 4, 0, by decide, by decide, rfl⟩
  · exact ⟨by omega, by omega, 4, 4, by decide, by decide, rfl⟩
  · exact ⟨by omega, by omega, 8, 0, by decide, by decide, rfl⟩
  · exact ⟨by omega, by omega, 3, 1, by decide, by decide, rfl⟩
  · exact ⟨by omega, by omega, 4, 2, by decide, by decide, rfl⟩
  · exact ⟨by omega, by omega, 6, 2, by decide, by decide, rfl⟩
theorem lit5 (W : World) (j : Nat) (hj : j < 5) : (W.alloc (.cells #[.int .i64 1, .int .i64 2, .int .i64 4, .int .i64 8, .int .i64 10] 3)).cell? ⟨W.heap.size, j, none⟩ = some (.int .i64 (glL j)) := by
  have : j = 0 ∨ j = 1 ∨ j = 2 ∨ j = 3 ∨ j = 4 := by omega
  rcases this with rfl | rfl | rfl | rfl | rfl <;> (unfold World.cell?; dsimp only; rw [blk_alloc_new]; rfl)
theorem pair_ok {n : Nat} (p q : Nat → Bool) (h1 : 1 ≤ n) (h2 : n ≤ 64) : pairC (rowS n p) (rowS n q) = 0 := by
  unfold pairC
  rw [if_pos (two_ok (rowC_rowS h1 h2) (rowC_rowS h1 h2)), if_pos (by rw [rowS_size, rowS_size])]
theorem isG_yes (W : World) {n : Nat} {p q : Nat → Bool} (h1 : 1 ≤ n) (h2 : n ≤ 64) (hg : golN n p q = true) :
    Calls Tryd.prog 32 #[.string (rowS n p), .string (rowS n q)] W fun e w' => e = .returned (.tuple #[.bool true, .int .i64 0]) ∧ Kept W w' := by
  refine (IsGolay_any W (rowS n p) (rowS n q) (by rw [rowS_size]; omega) (by rw [rowS_size]; omega)).mono fun e w' h => ?_
  unfold IsGAns at h
  rw [if_pos (pair_ok p q h1 h2), rowS_size, golS_rows, hg] at h
  exact ⟨h.2, h.1⟩
theorem dbl_yes (W : World) {n : Nat} (p q : Nat → Bool) (h1 : 1 ≤ n) (h2 : n ≤ 32) :
    Calls Tryd.prog 33 #[.string (rowS n p), .string (rowS n q)] W fun e w' => e = .returned (.tuple #[.string (rowS (n + n) (catP n p q)), .string (rowS (n + n) (catP n p (fun i => !q i))), .int .i64 0]) ∧ Kept W w' := by
  refine (Double_any W (rowS n p) (rowS n q) (by rw [rowS_size]; omega) (by rw [rowS_size]; omega)).mono fun e w' h => ?_
  unfold DoubAns at h
  rw [if_neg (by rw [rowS_size]; omega), if_pos (pair_ok p q h1 (by omega)), min_row, cat_row, cat_row] at h
  exact ⟨h.2, h.1⟩
set_option maxRecDepth 100000 in
set_option maxHeartbeats 16000000 in
theorem golayLaw_any (w : World) (n0 : Nat) (hn0 : n0 < 256) (v : Value) (xn : Nat) (Z : Nat → Nat) (hV : BytesAt w v xn Z) (hZ : ∀ i, Z i < 256) (hxn : xn ≤ maxLen) :
    Calls Tryd.prog 13 #[.int .u8 n0, v] w (LivesPost w) := by
  obtain ⟨a0, b0, o0, cap0, rfl, ha, hc⟩ := hV
  have HC := Lib.hid hc
  have HZ := Lib.hid hZ
  clear hc hZ
  unfold maxLen at hxn
  obtain ⟨j, HJ⟩ : ∃ j, Hid (j = n0 % 5) := ⟨_, rfl⟩
  have hj : j < 5 := by rw [HJ.out]; omega
  have e1 : Int.tmod (n0 : Int) 5 = (j : Int) := by rw [HJ.out]; exact (Int.ofNat_tmod n0 5).symm
  have s1 : (j : Int) < 5 := by omega
  have s2 : (0 : Int) ≤ (j : Int) := by omega
  have t0 := lit5 w j hj
  have hK0 : Kept w (w.alloc (.cells #[.int .i64 1, .int .i64 2, .int .i64 4, .int .i64 8, .int .i64 10] 3)) := (Kept.refl w).alloc _
  obtain ⟨g1, g2, g3, g4⟩ := glL_good j hj
  obtain ⟨n, HN⟩ : ∃ n, Hid (n = glL j) := ⟨_, rfl⟩
  rw [← HN.out] at t0 g1 g2 g3 g4
  have GO := Lib.hid (fun W => Golay_any W (n : Int))
  unfold GolAns at GO
  simp only [if_pos (show 1 ≤ (n : Int) ∧ (n : Int) ≤ 10 by omega), Int.toNat_natCast, if_pos g3] at GO
  obtain ⟨q1, _, q3, q4⟩ := gol_pair g3 g1 (by omega)
  have hP0 : golN n (bitP n (gx n)) (bitP n (gy n (gx n))) = true := (gx_is g3).2
  obtain ⟨p, hp⟩ : ∃ p, p = bitP n (gx n) := ⟨_, rfl⟩
  obtain ⟨q, hq⟩ : ∃ q, q = bitP n (gy n (gx n)) := ⟨_, rfl⟩
  unfold rowN at GO q1 q3 q4
  rw [← hp, ← hq] at hP0
  simp only [← hp, ← hq] at GO q1 q3 q4
  have LV := Lib.hid lives_any
  have hPP : Hid (golN n p q = true) := hP0
  have hOK : Hid (okN n = true) := g4
  have RO := Lib.hid (fun W => rRow_two W (rowS n p) (rowS n q))
  rw [q1] at RO
  have z1 : ((n : Int) != (n : Int)) = false := by simp
  clear hp hq hP0 g3 g4 q1 HN HJ
  obtain ⟨S, HS⟩ : ∃ S, Hid (S = rowS n p) := ⟨_, rfl⟩
  obtain ⟨T, HT⟩ : ∃ T, Hid (T = rowS n q) := ⟨_, rfl⟩
  rw [← HS.out] at GO RO q3
  rw [← HT.out] at GO RO q4
  go_enter Tryd.func13, Tryd.ntmps13
  go_wp2_with (first
    | (go_at_call 29; refine (GO.out _).mono ?_; rintro e w1 ⟨hk1, rfl⟩)
    | (go_at_call 19; refine (RO.out _).mono ?_; rintro e w2 ⟨rfl, hk2⟩)
    | (go_at_call 20; refine (LV.out _).mono ?_; rintro e w3 ⟨rfl, hk3⟩))
  have hK3 : Kept w w3 := ((hK0.trans hk1).trans hk2).trans hk3
  clear hK0 hk1 hk2 hk3 t0 GO RO LV e1 s1 s2 z1 q3 q4
  go_loopg [6, 7, 9] xn (fun g s6 s7 s9 wr => ∃ (i m : Nat) (p q : Nat → Bool), i ≤ xn ∧ g = xn - i ∧ s9 = .int .i64 i ∧ s6 = .string (rowS m p) ∧ s7 = .string (rowS m q) ∧ Kept w wr ∧ Hid (golN m p q = true) ∧ Hid (okN m = true))
  case atStart => exact ⟨0, n, p, q, Nat.zero_le _, rfl, rfl, by rw [HS.out], by rw [HT.out], hK3, hPP, hOK⟩
  case round =>
    clear hK3 HS HT hPP hOK
    obtain ⟨i, m, p, q, hi, rfl, rfl, rfl, rfl, hK, hP, hO⟩ := hrel
    obtain ⟨m1, m64, A, B, hA8, hB8, hAB⟩ := okN_in hO.out
    have hsp : (rowS m p).size = m := rowS_size _ _
    have hsq : (rowS m q).size = m := rowS_size _ _
    by_cases hlt : i < xn ∧ i < 12
    · obtain ⟨h1, h2⟩ := hlt
      obtain rfl := ha (by omega)
      have t0 := hK.cellSome (HC.out i h1)
      try dsimp only at t0
      have s1 : (i : Int) < (xn : Int) := by omega
      have s2 : (i : Int) < 12 := by omega
      have s3 : (0 : Int) ≤ (i : Int) := by omega
      obtain ⟨r, HR⟩ : ∃ r : Nat, Hid (r = Z i % 5) := ⟨_, rfl⟩
      have hr5 : r < 5 := by rw [HR.out]; omega
      have em : Int.tmod ((Z i : Nat) : Int) 5 = (r : Int) := by rw [HR.out]; exact (Int.ofNat_tmod (Z i) 5).symm
      have hzb := HZ.out i
      obtain ⟨z, HZI⟩ : ∃ z, z = Z i := ⟨_, rfl⟩
      rw [← HZI] at t0 em hzb
      have wu : IntKind.u8.wrap (r : Int) = (r : Int) := IntWalk.u8_in _ (by omega)
      clear HR HZI hAB hA8 hB8
      have hcase : r = 0 ∨ r = 1 ∨ r = 2 ∨ r = 3 ∨ r = 4 := by omega
      rcases hcase with h | h | h | h | h
      · subst h
        have hg := gol_swap hP.out
        have IG := Lib.hid (fun W => isG_yes W m1 m64 hg)
        obtain ⟨S, HS⟩ : ∃ S, Hid (S = rowS m q) := ⟨_, rfl⟩
        obtain ⟨T, HT⟩ : ∃ T, Hid (T = rowS m p) := ⟨_, rfl⟩
        rw [← HS.out, ← HT.out] at IG
        rw [← HS.out, ← HT.out]
        go_wp2_with (first | (go_at_call 32; refine (IG.out _).mono ?_; rintro e w5 ⟨rfl, hk5⟩))
        go_roundg (xn - (i + 1))
        case measure => omega
        case rel => exact ⟨i + 1, m, q, p, by omega, rfl, by first | rfl | go_num, by first | rfl | rw [HS.out], by first | rfl | rw [HT.out], hK.trans hk5, hg, hO⟩
      · subst h
        have hg := gol_back1 hP.out
        have IG := Lib.hid (fun W => isG_yes W m1 m64 hg)
        have BK := Lib.hid (fun W => rBack_any W m p (by omega))
        obtain ⟨S, HS⟩ : ∃ S, Hid (S = rowS m (fun i => p (m - 1 - i))) := ⟨_, rfl⟩
        obtain ⟨T, HT⟩ : ∃ T, Hid (T = rowS m q) := ⟨_, rfl⟩
        rw [← HS.out, ← HT.out] at IG
        rw [← HS.out] at BK
        rw [← HT.out]
        go_wp2_with (first | (go_at_call 32; refine (IG.out _).mono ?_; rintro e w5 ⟨rfl, hk5⟩) | (go_at_call 55; refine (BK.out _).mono ?_; rintro e w4 ⟨rfl, rfl⟩))
        go_roundg (xn - (i + 1))
        case measure => omega
        case rel => exact ⟨i + 1, m, _, q, by omega, rfl, by first | rfl | go_num, by first | rfl | rw [HS.out], by first | rfl | rw [HT.out], hK.trans hk5, hg, hO⟩
      · subst h
        have hg := gol_not2 hP.out
        have IG := Lib.hid (fun W => isG_yes W m1 m64 hg)
        have MN := Lib.hid (fun W => rMinus_any W (rowS m q) m hsq (by omega))
        rw [show rowS m (fun i => chr (rowS m q) i == 43) = minS (rowS m q) by unfold minS; rw [rowS_size], min_row] at MN
        obtain ⟨S, HS⟩ : ∃ S, Hid (S = rowS m p) := ⟨_, rfl⟩
        obtain ⟨T, HT⟩ : ∃ T, Hid (T = rowS m (fun i => !q i)) := ⟨_, rfl⟩
        rw [← HS.out, ← HT.out] at IG
        rw [← HT.out] at MN
        rw [← HS.out]
        go_wp2_with (first | (go_at_call 32; refine (IG.out _).mono ?_; rintro e w5 ⟨rfl, hk5⟩) | (go_at_call 34; refine (MN.out _).mono ?_; rintro e w4 ⟨rfl, rfl⟩))
        go_roundg (xn - (i + 1))
        case measure => omega
        case rel => exact ⟨i + 1, m, p, _, by omega, rfl, by first | rfl | go_num, by first | rfl | rw [HS.out], by first | rfl | rw [HT.out], hK.trans hk5, hg, hO⟩
      · subst h
        by_cases h32 : m ≤ 32
        · have s4 : ¬ (m : Int) > 32 := by omega
          have hg := gol_double hP.out
          have IG := Lib.hid (fun W => isG_yes W (show 1 ≤ m + m by omega) (by omega) hg)
          have DB := Lib.hid (fun W => dbl_yes W p q m1 h32)
          have hsS : (rowS (m + m) (catP m p q)).size = m + m := rowS_size _ _
          have hsT : (rowS (m + m) (catP m p (fun i => !q i))).size = m + m := rowS_size _ _
          obtain ⟨S, HS⟩ : ∃ S, Hid (S = rowS (m + m) (catP m p q)) := ⟨_, rfl⟩
          obtain ⟨T, HT⟩ : ∃ T, Hid (T = rowS (m + m) (catP m p (fun i => !q i))) := ⟨_, rfl⟩
          rw [← HS.out, ← HT.out] at IG DB
          rw [← HS.out] at hsS
          rw [← HT.out] at hsT
          have z5 : (((m + m : Nat) : Int) != 2 * (m : Int)) = false := by simp; omega
          have z6 : ((m : Int) + (m : Int) != 2 * (m : Int)) = false := by simp; omega
          go_wp2_with (first | (go_at_call 32; refine (IG.out _).mono ?_; rintro e w5 ⟨rfl, hk5⟩) | (go_at_call 33; refine (DB.out _).mono ?_; rintro e w4 ⟨rfl, hk4⟩))
          go_roundg (xn - (i + 1))
          case measure => omega
          case rel => exact ⟨i + 1, m + m, _, _, by omega, rfl, by first | rfl | go_num, by rw [HS.out], by rw [HT.out], (hK.trans hk4).trans hk5, hg, okN_two hO.out h32⟩
        · have s4 : (m : Int) > 32 := by omega
          go_wp2_with fail
          go_roundg (xn - (i + 1))
          case measure => omega
          case rel => exact ⟨i + 1, m, p, q, by omega, rfl, by first | rfl | go_num, rfl, rfl, hK, hP, hO⟩
      · subst h
        have hg := gol_back2 hP.out
        have IG := Lib.hid (fun W => isG_yes W m1 m64 hg)
        have BK := Lib.hid (fun W => rBack_any W m q (by omega))
        obtain ⟨S, HS⟩ : ∃ S, Hid (S = rowS m p) := ⟨_, rfl⟩
        obtain ⟨T, HT⟩ : ∃ T, Hid (T = rowS m (fun i => q (m - 1 - i))) := ⟨_, rfl⟩
        rw [← HS.out, ← HT.out] at IG
        rw [← HT.out] at BK
        rw [← HS.out]
        go_wp2_with (first | (go_at_call 32; refine (IG.out _).mono ?_; rintro e w5 ⟨rfl, hk5⟩) | (go_at_call 55; refine (BK.out _).mono ?_; rintro e w4 ⟨rfl, rfl⟩))
        go_roundg (xn - (i + 1))
        case measure => omega
        case rel => exact ⟨i + 1, m, p, _, by omega, rfl, by first | rfl | go_num, by first | rfl | rw [HS.out], by first | rfl | rw [HT.out], hK.trans hk5, hg, hO⟩
    · have hb : Hid (∃ S : ByteArray, S = rowS m p) := ⟨_, rfl⟩
      obtain ⟨S, HS⟩ := hb.out
      rw [← HS] at hsp ⊢
      clear HS hb
      have hfin : Hid (∀ i, m < i * i → A < i) := fun i h => by
        rcases Nat.lt_or_ge A i with h1 | h1
        · exact h1
        · have := Nat.mul_le_mul h1 h1
          omega
      have hfin2 : Hid (∀ i, m < i * i → B < i) := fun i h => by
        rcases Nat.lt_or_ge B i with h1 | h1
        · exact h1
        · have := Nat.mul_le_mul h1 h1
          omega
      have hAB2 : Hid (∀ i j, i = A → j = B → i * i + j * j = m) := fun i j h1 h2 => by rw [h1, h2]; exact hAB
      have hsmall : Hid (∀ i, i * i ≤ m → i ≤ 8) := fun i h => by
        rcases Nat.lt_or_ge 8 i with h1 | h1
        · have := Nat.mul_le_mul (show 9 ≤ i from h1) (show 9 ≤ i from h1)
          omega
        · exact h1
      have hstop : (xn : Int) ≤ (i : Int) ∨ (i : Int) < (xn : Int) ∧ ¬ (i : Int) < 12 := by omega
      have hK9 := Lib.hid hK
      clear hAB hK HC HZ hP hO hsq
      rcases hstop with s0 | ⟨s0, s00⟩
      all_goals
        try have s000 : ¬ (i : Int) < (xn : Int) := by omega
        obtain ⟨Wo, rfl⟩ : ∃ Wo : World, Wo = wr := ⟨_, rfl⟩
        go_wp2_with fail
        go_loopg [15, 16] 10 (fun g s15 s16 wi => ∃ (a : Nat) (b : Bool), a ≤ 9 ∧ g + a = 10 ∧ s16 = .int .i64 a ∧ s15 = .bool b ∧ Wo = wi ∧ Hid (b = true ∨ a ≤ A))
        case atStart => exact ⟨0, false, by omega, by omega, rfl, rfl, rfl, Or.inr (Nat.zero_le _)⟩
        case round =>
          obtain ⟨a, b, ha9, hg, rfl, rfl, rfl, hb⟩ := hrel
          have hc : (a : Int) * (a : Int) = ((a * a : Nat) : Int) := by simp
          have haa : a * a ≤ 9 * 9 := Nat.mul_le_mul ha9 ha9
          have hw : wrap64 ((a : Int) * (a : Int)) = (a : Int) * (a : Int) := by rw [hc]; exact IntWalk.wrap64_in _ (by omega)
          by_cases hle : a * a ≤ m
          · have ha8 := hsmall.out a hle
            have s5 : (a : Int) * (a : Int) ≤ (m : Int) := by rw [hc]; exact Int.ofNat_le.2 hle
            have HCC := Lib.hid hc
            have HAA := Lib.hid haa
            clear hc hle haa
            go_wp2_with fail
            try rw [hw]
            go_loopg [15, 17] 10 (fun g s15 s17 wi => ∃ (c : Nat) (b : Bool), c ≤ 9 ∧ g + c = 10 ∧ s17 = .int .i64 c ∧ s15 = .bool b ∧ Wo = wi ∧ Hid (b = true ∨ a < A ∨ (a = A ∧ c ≤ B)))
            case atStart => exact ⟨0, b, by omega, by omega, rfl, rfl, rfl, by rcases hb.out with h | h; exact Or.inl h; exact Or.inr (by omega)⟩
            case round =>
              obtain ⟨c, b, hc9, hg, rfl, rfl, rfl, hb⟩ := hrel
              have hcc : (c : Int) * (c : Int) = ((c * c : Nat) : Int) := by simp
              have hc2 : c * c ≤ 9 * 9 := Nat.mul_le_mul hc9 hc9
              have hwc : wrap64 ((c : Int) * (c : Int)) = (c : Int) * (c : Int) := by rw [hcc]; exact IntWalk.wrap64_in _ (by omega)
              by_cases hle2 : c * c ≤ m
              · have hc8 := hsmall.out c hle2
                have s6 : (c : Int) * (c : Int) ≤ (m : Int) := by rw [hcc]; exact Int.ofNat_le.2 hle2
                cases b with
                | true =>
                  clear hcc hc2 hle2
                  go_wp2_with fail
                  go_roundg (10 - (c + 1))
                  case measure => omega
                  case rel => exact ⟨c + 1, true, by omega, by omega, by first | rfl | go_num, rfl, rfl, Or.inl rfl⟩
                | false =>
                  have hws : wrap64 ((a : Int) * (a : Int) + (c : Int) * (c : Int)) = (a : Int) * (a : Int) + (c : Int) * (c : Int) := by
                    have h1 := HAA.out
                    clear hle2 hwc s6
                    rw [hcc, HCC.out]
                    exact IntWalk.wrap64_in _ (by omega)
                  by_cases hsum : a * a + c * c = m
                  · have z9 : ((a : Int) * (a : Int) + (c : Int) * (c : Int) == (m : Int)) = true := by rw [hcc, HCC.out]; exact beq_iff_eq.2 (by rw [← Int.natCast_add, hsum])
                    clear hcc hc2 hle2 hsum
                    go_wp2_with fail
                    go_roundg (10 - (c + 1))
                    case measure => omega
                    case rel => exact ⟨c + 1, true, by omega, by omega, by first | rfl | go_num, rfl, rfl, Or.inl rfl⟩
                  · have z9 : ((a : Int) * (a : Int) + (c : Int) * (c : Int) == (m : Int)) = false := by rw [hcc, HCC.out]; exact beq_eq_false_iff_ne.2 (fun h => hsum (Int.ofNat_inj.1 (by rw [← Int.natCast_add] at h; exact h)))
                    have hnx : Hid (false = true ∨ a < A ∨ (a = A ∧ c + 1 ≤ B)) := by
                      rcases hb.out with h | h | h
                      · cases h
                      · exact Or.inr (Or.inl h)
                      · refine Or.inr (Or.inr ⟨h.1, ?_⟩)
                        have : ¬ c = B := fun e => hsum (hAB2.out a c h.1 e)
                        omega
                    clear hcc hc2 hle2 hsum
                    go_wp2_with fail
                    go_roundg (10 - (c + 1))
                    case measure => omega
                    case rel => exact ⟨c + 1, false, by omega, by omega, by first | rfl | go_num, rfl, rfl, hnx⟩
              · have s6 : ¬ (c : Int) * (c : Int) ≤ (m : Int) := by rw [hcc]; exact fun h => hle2 (Int.ofNat_le.1 h)
                have hBc := hfin2.out c (Nat.lt_of_not_le hle2)
                have hnx : Hid (b = true ∨ a + 1 ≤ A) := by
                  rcases hb.out with h | h | h
                  · exact Or.inl h
                  · exact Or.inr h
                  · omega
                clear hcc hc2 hle2
                go_wp2_with fail
                go_roundg (10 - (a + 1))
                case measure => omega
                case rel => exact ⟨a + 1, b, by omega, by omega, by first | rfl | go_num, rfl, rfl, hnx⟩
          · have s5 : ¬ (a : Int) * (a : Int) ≤ (m : Int) := by rw [hc]; exact fun h => hle (Int.ofNat_le.1 h)
            have hAa := hfin.out a (Nat.lt_of_not_le hle)
            have hbt : b = true := by
              rcases hb.out with h | h
              · exact h
              · omega
            subst hbt
            clear hc haa hle hAa hb
            go_wp2_with fail
            go_ret
            exact ⟨rfl, hK9.out⟩
end Go.Proofs.YtcgbfhjefepafaaDoor
