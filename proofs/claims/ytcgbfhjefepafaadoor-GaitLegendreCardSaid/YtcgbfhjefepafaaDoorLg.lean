/-
  GaitLegendre.
-/
import Derived.Test.YtcgbfhjefepafaaDoorLv
namespace Go.Proofs.YtcgbfhjefepafaaDoor
open Go.RowKit Go.Deep Go.Shelf

theorem leg3 : (∀ i, i < 3 → legP 3 i = (4 : Nat).testBit i) ∧ allN (fun i => decide (i = 0) || decide (arouN 3 (fun j => (4 : Nat).testBit j) i = -1)) 3 = true ∧ legOk 3 = true := by
  refine ⟨?_, by decide +kernel, by decide +kernel⟩
  have h : allN (fun i => legP 3 i == (4 : Nat).testBit i) 3 = true := by decide +kernel
  exact fun i hi => eq_of_beq (allN_true.1 h i hi)
theorem leg7 : (∀ i, i < 7 → legP 7 i = (104 : Nat).testBit i) ∧ allN (fun i => decide (i = 0) || decide (arouN 7 (fun j => (104 : Nat).testBit j) i = -1)) 7 = true ∧ legOk 7 = true := by
  refine ⟨?_, by decide +kernel, by decide +kernel⟩
  have h : allN (fun i => legP 7 i == (104 : Nat).testBit i) 7 = true := by decide +kernel
  exact fun i hi => eq_of_beq (allN_true.1 h i hi)
theorem leg11 : (∀ i, i < 11 → legP 11 i = (1476 : Nat).testBit i) ∧ allN (fun i => decide (i = 0) || decide (arouN 11 (fun j => (1476 : Nat).testBit j) i = -1)) 11 = true ∧ legOk 11 = true := by
  refine ⟨?_, by decide +kernel, by decide +kernel⟩
  have h : allN (fun i => legP 11 i == (1476 : Nat).testBit i) 11 = true := by decide +kernel
  exact fun i hi => eq_of_beq (allN_true.1 h i hi)
theorem leg19 : (∀ i, i < 19 → legP 19 i = (324876 : Nat).testBit i) ∧ allN (fun i => decide (i = 0) || decide (arouN 19 (fun j => (324876 : Nat).testBit j) i = -1)) 19 = true ∧ legOk 19 = true := by
  refine ⟨?_, by decide +kernel, by decide +kernel⟩
  have h : allN (fun i => legP 19 i == (324876 : Nat).testBit i) 19 = true := by decide +kernel
  exact fun i hi => eq_of_beq (allN_true.1 h i hi)
theorem leg23 : (∀ i, i < 23 → legP 23 i = (8047776 : Nat).testBit i) ∧ allN (fun i => decide (i = 0) || decide (arouN 23 (fun j => (8047776 : Nat).testBit j) i = -1)) 23 = true ∧ legOk 23 = true := by
  refine ⟨?_, by decide +kernel, by decide +kernel⟩
  have h : allN (fun i => legP 23 i == (8047776 : Nat).testBit i) 23 = true := by decide +kernel
  exact fun i hi => eq_of_beq (allN_true.1 h i hi)
theorem leg31 : (∀ i, i < 31 → legP 31 i = (1843574856 : Nat).testBit i) ∧ allN (fun i => decide (i = 0) || decide (arouN 31 (fun j => (1843574856 : Nat).testBit j) i = -1)) 31 = true ∧ legOk 31 = true := by
  refine ⟨?_, by decide +kernel, by decide +kernel⟩
  have h : allN (fun i => legP 31 i == (1843574856 : Nat).testBit i) 31 = true := by decide +kernel
  exact fun i hi => eq_of_beq (allN_true.1 h i hi)
theorem leg43 : (∀ i, i < 43 → legP 43 i = (5117392458156 : Nat).testBit i) ∧ allN (fun i => decide (i = 0) || decide (arouN 43 (fun j => (5117392458156 : Nat).testBit j) i = -1)) 43 = true ∧ legOk 43 = true := by
  refine ⟨?_, by decide +kernel, by decide +kernel⟩
  have h : allN (fun i => legP 43 i == (5117392458156 : Nat).testBit i) 43 = true := by decide +kernel
  exact fun i hi => eq_of_beq (allN_true.1 h i hi)
theorem leg47 : (∀ i, i < 47 → legP 47 i = (136111353015328 : Nat).testBit i) ∧ allN (fun i => decide (i = 0) || decide (arouN 47 (fun j => (136111353015328 : Nat).testBit j) i = -1)) 47 = true ∧ legOk 47 = true := by
  refine ⟨?_, by decide +kernel, by decide +kernel⟩
  have h : allN (fun i => legP 47 i == (136111353015328 : Nat).testBit i) 47 = true := by decide +kernel
  exact fun i hi => eq_of_beq (allN_true.1 h i hi)
theorem leg59 : (∀ i, i < 59 → legP 59 i = (420134283961986372 : Nat).testBit i) ∧ allN (fun i => decide (i = 0) || decide (arouN 59 (fun j => (420134283961986372 : Nat).testBit j) i = -1)) 59 = true ∧ legOk 59 = true := by
  refine ⟨?_, by decide +kernel, by decide +kernel⟩
  have h : allN (fun i => legP 59 i == (420134283961986372 : Nat).testBit i) 59 = true := by decide +kernel
  exact fun i hi => eq_of_beq (allN_true.1 h i hi)
def prL (j : Nat) : Nat := if j = 0 then 3 else if j = 1 then 7 else if j = 2 then 11 else if j = 3 then 19 else if j = 4 then 23 else if j = 5 then 31 else if j = 6 then 43 else if j = 7 then 47 else 59
def LegGood (n : Nat) : Prop := 3 ≤ n ∧ n ≤ 61 ∧ legOk (n : Int) = true ∧ ∀ i, 0 < i → i < n → arouN n (legP n) i = -1
theorem legGood_of {n M : Nat} (h3 : 3 ≤ n) (h61 : n ≤ 61) (h : (∀ i, i < n → legP n i = M.testBit i) ∧ allN (fun i => decide (i = 0) || decide (arouN n (fun j => M.testBit j) i = -1)) n = true ∧ legOk (n : Int) = true) : LegGood n := by
  refine ⟨h3, h61, h.2.2, fun i h0 hi => ?_⟩
  rw [arouN_congr h.1]
  have := allN_true.1 h.2.1 i hi
  simpa [show ¬ i = 0 by omega] using this
theorem prL_good (j : Nat) (hj : j < 9) : LegGood (prL j) := by
  have : j = 0 ∨ j = 1 ∨ j = 2 ∨ j = 3 ∨ j = 4 ∨ j = 5 ∨ j = 6 ∨ j = 7 ∨ j = 8 := by omega
  rcases this with rfl | rfl | rfl | rfl | rfl | rfl | rfl | rfl | rfl
  · exact legGood_of (by decide) (by decide) leg3
  · exact legGood_of (by decide) (by decide) leg7
  · exact legGood_of (by decide) (by decide) leg11
  · exact legGood_of (by decide) (by decide) leg19
  · exact legGood_of (by decide) (by decide) leg23
  · exact legGood_of (by decide) (by decide) leg31
  · exact legGood_of (by decide) (by decide) leg43
  · exact legGood_of (by decide) (by decide) leg47
  · exact legGood_of (by decide) (by decide) leg59
theorem lit9 (W : World) (j : Nat) (hj : j < 9) : (W.alloc (.cells #[.int .i64 3, .int .i64 7, .int .i64 11, .int .i64 19, .int .i64 23, .int .i64 31, .int .i64 43, .int .i64 47, .int .i64 59] 3)).cell? ⟨W.heap.size, j, none⟩ = some (.int .i64 (prL j)) := by
  have : j = 0 ∨ j = 1 ∨ j = 2 ∨ j = 3 ∨ j = 4 ∨ j = 5 ∨ j = 6 ∨ j = 7 ∨ j = 8 := by omega
  rcases this with rfl | rfl | rfl | rfl | rfl | rfl | rfl | rfl | rfl <;> (unfold World.cell?; dsimp only; rw [blk_alloc_new]; rfl)
set_option maxRecDepth 100000 in
set_option maxHeartbeats 4000000 in
theorem legendreLaw_any (w : World) (p : Nat) (hp : p < 256) : Calls Tryd.prog 14 #[.int .u8 p] w (LivesPost w) := by
  obtain ⟨j, HJ⟩ : ∃ j, Hid (j = p % 9) := ⟨_, rfl⟩
  have hj : j < 9 := by rw [HJ.out]; omega
  have e1 : Int.tmod (p : Int) 9 = (j : Int) := by rw [HJ.out]; exact (Int.ofNat_tmod p 9).symm
  have s1 : (j : Int) < 9 := by omega
  have s2 : (0 : Int) ≤ (j : Int) := by omega
  have t0 := lit9 w j hj
  have hK0 : Kept w (w.alloc (.cells #[.int .i64 3, .int .i64 7, .int .i64 11, .int .i64 19, .int .i64 23, .int .i64 31, .int .i64 43, .int .i64 47, .int .i64 59] 3)) := (Kept.refl w).alloc _
  obtain ⟨g1, g2, g3, g4⟩ := prL_good j hj
  obtain ⟨n, HN⟩ : ∃ n, Hid (n = prL j) := ⟨_, rfl⟩
  rw [← HN.out] at t0 g1 g2 g3 g4
  have LE := Lib.hid (fun W => Legendre_any W (n : Int))
  unfold LegAns at LE
  simp only [g3, if_true, Int.toNat_natCast] at LE
  have AR := Lib.hid (fun W => Around_any W (rowS n (legP n)) (by rw [rowS_size]; omega))
  unfold LikeAns at AR
  simp only [rowC_rowS (show 1 ≤ n by omega) (show n ≤ 64 by omega), if_true, rowS_size] at AR
  have hval : Hid (∀ i, 0 < i → i < n → arouS (rowS n (legP n)) n i = -1) := fun i h0 hi => by rw [arouS_row n i _ hi]; exact g4 i h0 hi
  have hz : Hid (arouS (rowS n (legP n)) n 0 = n) := by show _ = _; rw [arouS_row n 0 _ (by omega), arouN_zero]
  have LV := Lib.hid lives_any
  have hS : (rowS n (legP n)).size = n := rowS_size _ _
  generalize arouS (rowS n (legP n)) n = f at *
  generalize rowS n (legP n) = S at *
  have s3 : (0 : Int) < (n : Int) := by omega
  have s4 : (0 : Int) ≤ 0 := by omega
  clear g3 g4 HN HJ
  go_enter Tryd.func14, Tryd.ntmps14
  go_wp2_with (first
    | (go_at_call 35; refine (LE.out _).mono ?_; rintro e w1 ⟨hk1, rfl⟩)
    | (go_at_call 17; refine (AR.out _).mono ?_; rintro e w2 ⟨hk2, r, rfl, hr0, hr⟩; have x0 := hr.cell (show 0 < n by omega); rw [hz.out] at x0)
    | (go_at_call 20; refine (LV.out _).mono ?_; rintro e w3 ⟨rfl, hk3⟩))
  have hK3 : Kept w w3 := ((hK0.trans hk1).trans hk2).trans hk3
  have hr3 := hk3.row hr
  clear hK0 hk1 hk2 hk3 hr x0 t0
  go_loopg [8] n (fun g s8 wr => ∃ i : Nat, 1 ≤ i ∧ i ≤ n ∧ g + i = n + 1 ∧ s8 = .int .i64 i ∧ w3 = wr)
  case atStart => exact ⟨1, by omega, by omega, by omega, rfl, rfl⟩
  case round =>
    obtain ⟨i, hi1, hi, hg, rfl, rfl⟩ := hrel
    by_cases hlt : i < n
    · have t0 := hr3.cell hlt
      rw [hval.out i (by omega) hlt] at t0
      have s5 : (i : Int) < (n : Int) := by omega
      have s6 : (0 : Int) ≤ (i : Int) := by omega
      go_wp2_with fail
      go_roundg (n + 1 - (i + 1))
      case measure => omega
      case rel => exact ⟨i + 1, by omega, by omega, by omega, by first | rfl | go_num, rfl⟩
    · have s5 : ¬ (i : Int) < (n : Int) := by omega
      go_wp2_with fail
      go_ret
      exact ⟨rfl, hK3⟩
end Go.Proofs.YtcgbfhjefepafaaDoor
