/-
  The quotient that the program writes, as a number.
-/
import Derived.Test.YthigeafojekclaaDoorUi
import Derived.Test.YthigeafojekclaaDoorRq
import Derived.Test.YthigeafojekclaaDoorMc
import Derived.Test.YthigeafojekclaaDoorLv
namespace Go.Proofs.YthigeafojekclaaDoor
open Go.RowKit Go.Deep Go.Shelf

theorem same_refl3 (n : Nat) (f : Nat → Int) : same n f n f = true := by
  unfold same
  rw [decide_eq_true rfl, Bool.true_and, allN_true]
  exact fun i _ => beq_self_eq_true _
theorem sqN_le {n : Nat} (p : Nat → Bool) (hn : n ≤ 64) : 0 ≤ sqN n p ∧ sqN n p ≤ 4096 * 64 := by
  have h := sumZ_le (f := fun k => likeN n p (k + 1) * likeN n p (k + 1)) (c := 4096) (n := n - 1) (fun k _ => by
    have h1 := likeN_bound n p (k + 1)
    have h2 := sq_bound (x := likeN n p (k + 1)) (n := 64) (by omega) (by omega)
    (try dsimp only)
    omega)
  have h0 : 0 ≤ sqN n p := by
    unfold sqN
    have : ∀ m, 0 ≤ sumZ (fun k => likeN n p (k + 1) * likeN n p (k + 1)) m := fun m => by
      induction m with
      | zero => exact Int.le_refl _
      | succ m ih =>
        simp only [sumZ]
        have := (sq_bound (likeN_bound n p (m + 1)).1 (likeN_bound n p (m + 1)).2).1
        omega
    exact this _
  unfold sqN at h0 ⊢
  omega
/-- the quotient that the program writes is the reference's -/
theorem quo_num {a b : Nat} (ha : 0 < a) (hb : 0 < b) (ha2 : a ≤ 1000000000) (hb2 : b ≤ 1000000000) :
    ∃ (x y : Int) (lx ly : List UInt8), x = (a : Int) / (Int.gcd a b : Int) ∧ y = (b : Int) / (Int.gcd a b : Int) ∧ 0 < x ∧ x < 10 ^ 60 ∧ 0 < y ∧ y < 10 ^ 60 ∧ (Int.gcd x y : Int) = 1 ∧ Num.DecL lx x ∧ Num.DecL ly y ∧ lx.length ≤ 100 ∧ ly.length ≤ 100 ∧ quoS a b = if y = 1 then Num.strL lx else Num.strL lx ++ (⟨#[47]⟩ ++ Num.strL ly) := by
  have hg : (Int.gcd (a : Int) (b : Int) : Int) = ((Nat.gcd b a : Nat) : Int) := by
    rw [Nat.gcd_comm]; rfl
  have hg0 : 0 < Nat.gcd b a := Nat.gcd_pos_of_pos_left _ hb
  have hga : Nat.gcd b a ≤ a := Nat.gcd_le_right _ ha
  have hgb : Nat.gcd b a ≤ b := Nat.gcd_le_left _ hb
  have hx0 : 0 < a / Nat.gcd b a := Nat.div_pos hga hg0
  have hy0 : 0 < b / Nat.gcd b a := Nat.div_pos hgb hg0
  have hxl : a / Nat.gcd b a ≤ a := Nat.div_le_self _ _
  have hyl : b / Nat.gcd b a ≤ b := Nat.div_le_self _ _
  have ex : (a : Int) / (Int.gcd a b : Int) = ((a / Nat.gcd b a : Nat) : Int) := by rw [hg]; simp
  have ey : (b : Int) / (Int.gcd a b : Int) = ((b / Nat.gcd b a : Nat) : Int) := by rw [hg]; simp
  have hbig : (1000000000 : Int) < 10 ^ 60 := by decide
  refine ⟨_, _, Lib.decDigits (a / Nat.gcd b a), Lib.decDigits (b / Nat.gcd b a), rfl, rfl, ?_, ?_, ?_, ?_, Num.coprime_div (by omega) (by omega) rfl, ?_, ?_, ?_, ?_, ?_⟩
  · rw [ex]; omega
  · rw [ex]; omega
  · rw [ey]; omega
  · rw [ey]; omega
  · rw [ex]; exact dec_decL hx0 (by omega)
  · rw [ey]; exact dec_decL hy0 (by omega)
  · exact Nat.le_trans (dec_dig 18 _ hx0 (by omega)).2.2.2.2 (by decide)
  · exact Nat.le_trans (dec_dig 18 _ hy0 (by omega)).2.2.2.2 (by decide)
  · rw [ey]
    unfold quoS
    by_cases h : b = Nat.gcd b a
    · have h1 : b / Nat.gcd b a = 1 := by
        have : b / b = 1 := Nat.div_self hb
        rw [← h]; exact this
      rw [if_pos h, if_pos (by rw [h1]; rfl)]
      rfl
    · have h1 : b / Nat.gcd b a ≠ 1 := fun e => by
        have := Nat.div_mul_cancel (Nat.gcd_dvd_left b a)
        rw [e] at this
        omega
      rw [if_neg h, if_neg (by omega)]
      rfl
end Go.Proofs.YthigeafojekclaaDoor
