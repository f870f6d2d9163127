/-
  The reference's Rest for the greatest distance and for the sum.
-/
import Derived.Test.YtfmcjbddbomohaaRc
namespace Go.Proofs.Ytfmcjbddbomohaa
open Go.RowKit Go.Deep

def rstM (X Y U V : Nat → Int) (m n : Nat) : Nat → Nat → Int := rst max (distF X Y U V) m n
def addI (a b : Int) : Int := a + b
def rstS (X Y U V : Nat → Int) (m n : Nat) : Nat → Nat → Int := rst addI (distF X Y U V) m n
theorem rst_sum_bd {F : Nat → Nat → Int} {m n : Nat} {B : Int} (hB : 0 ≤ B) (hF : ∀ i j, i < m → j < n → 0 ≤ F i j ∧ F i j ≤ B) : ∀ d i j, i < m → j < n → (m - 1 - i) + (n - 1 - j) = d → 0 ≤ rst addI F m n i j ∧ rst addI F m n i j ≤ B * ((d : Int) + 1) := by
  intro d
  induction d using Nat.strongRecOn with
  | ind d ih =>
    intro i j hi hjn hd
    have hF' := hF i j hi hjn
    rw [rst_eq hi hjn]
    have e1 : B * ((d : Int) + 1) = B * d + B := by rw [Int.mul_add, Int.mul_one]
    have e0 : 0 ≤ B * (d : Int) := Int.mul_nonneg hB (by omega)
    by_cases hl : i + 1 = m ∧ j + 1 = n
    · rw [if_pos hl, e1]; omega
    · rw [if_neg hl]
      have hlt : ∀ p q, p < m → q < n → i ≤ p → j ≤ q → i + j < p + q → 0 ≤ rst addI F m n p q ∧ rst addI F m n p q ≤ B * d := fun p q hp hq h1 h2 h3 => by
        have h := ih ((m - 1 - p) + (n - 1 - q)) (by omega) p q hp hq rfl
        refine ⟨h.1, Int.le_trans h.2 (Int.mul_le_mul_of_nonneg_left ?_ hB)⟩
        omega
      have hb : 0 ≤ best3 m n (rst addI F m n) i j ∧ best3 m n (rst addI F m n) i j ≤ B * d := by
        unfold best3
        by_cases h1 : j + 1 < n
        · rw [if_pos h1]
          have k1 := hlt i (j + 1) hi h1 (by omega) (by omega) (by omega)
          by_cases h2 : i + 1 < m
          · rw [if_pos h2]
            have k2 := hlt (i + 1) j h2 hjn (by omega) (by omega) (by omega)
            have k3 := hlt (i + 1) (j + 1) h2 h1 (by omega) (by omega) (by omega)
            omega
          · rw [if_neg h2]; exact k1
        · rw [if_neg h1]; exact hlt (i + 1) j (by omega) hjn (by omega) (by omega) (by omega)
      rw [e1]
      unfold addI at hb ⊢
      omega
theorem rstS_bd {X Y U V : Nat → Int} {m n i j : Nat} (r1 : InR m X Y) (r2 : InR n U V) (hi : i < m) (hj : j < n) : 0 ≤ rstS X Y U V m n i j ∧ rstS X Y U V m n i j ≤ 8000000 * ((((m - 1 - i) + (n - 1 - j) : Nat) : Int) + 1) :=
  rst_sum_bd (B := 8000000) (by omega) (fun i j hi hj => dist_bd (r1 i hi).1 (r1 i hi).2 (r2 j hj).1 (r2 j hj).2) _ i j hi hj rfl
theorem rstM_bd {X Y U V : Nat → Int} {m n i j : Nat} (r1 : InR m X Y) (r2 : InR n U V) (hi : i < m) (hj : j < n) : 0 ≤ rstM X Y U V m n i j ∧ rstM X Y U V m n i j ≤ 8000000 :=
  rst_max_bd (fun i j hi hj => dist_bd (r1 i hi).1 (r1 i hi).2 (r2 j hj).1 (r2 j hj).2) hi hj
theorem Rest_max (w : World) (m n : Nat) (a1 a2 : Option Addr) (cap1 cap2 : Nat) (X Y U V : Nat → Int) (hA : PairsAt w (.slice a1 m cap1) m X Y) (hB : PairsAt w (.slice a2 n cap2) n U V) (h1 : InR m X Y) (h2 : InR n U V) (hm : 1 ≤ m) (hn : 1 ≤ n) (hm2 : m ≤ 900) (hn2 : n ≤ 900) :
    Calls Try.prog 25 #[.slice a1 m cap1, .slice a2 n cap2, .bool false] w (RestPost w m n (rstM X Y U V m n)) := by
  obtain ⟨_, b1, o1, _, e1, ha1, hc1⟩ := hA
  cases e1
  obtain rfl := ha1 (by omega)
  obtain ⟨_, b2, o2, _, e2, ha2, hc2⟩ := hB
  cases e2
  obtain rfl := ha2 (by omega)
  refine Rest_core w m n b1 o1 cap1 b2 o2 cap2 X Y U V false _ hc1 hc2 h1 h2 hm hn (by omega) (by omega) (fun i j hi hj => ?_) (fun i j hi hj hl => ?_) (fun i j hi hj => ?_)
  · unfold rstM
    rw [rst_eq (by omega) (by omega), if_pos ⟨hi, hj⟩]; rfl
  · have e := rst_eq (jn := max) (F := distF X Y U V) hi hj
    rw [if_neg hl] at e
    rw [if_neg (by decide)]
    unfold rstM
    rw [e]
    exact Int.max_comm _ _
  · have h := rstM_bd h1 h2 hi hj
    omega
theorem Rest_sum (w : World) (m n : Nat) (a1 a2 : Option Addr) (cap1 cap2 : Nat) (X Y U V : Nat → Int) (hA : PairsAt w (.slice a1 m cap1) m X Y) (hB : PairsAt w (.slice a2 n cap2) n U V) (h1 : InR m X Y) (h2 : InR n U V) (hm : 1 ≤ m) (hn : 1 ≤ n) (hm2 : m ≤ 900) (hn2 : n ≤ 900) :
    Calls Try.prog 25 #[.slice a1 m cap1, .slice a2 n cap2, .bool true] w (RestPost w m n (rstS X Y U V m n)) := by
  obtain ⟨_, b1, o1, _, e1, ha1, hc1⟩ := hA
  cases e1
  obtain rfl := ha1 (by omega)
  obtain ⟨_, b2, o2, _, e2, ha2, hc2⟩ := hB
  cases e2
  obtain rfl := ha2 (by omega)
  refine Rest_core w m n b1 o1 cap1 b2 o2 cap2 X Y U V true _ hc1 hc2 h1 h2 hm hn (by omega) (by omega) (fun i j hi hj => ?_) (fun i j hi hj hl => ?_) (fun i j hi hj => ?_)
  · unfold rstS
    rw [rst_eq (by omega) (by omega), if_pos ⟨hi, hj⟩]; rfl
  · have e := rst_eq (jn := addI) (F := distF X Y U V) hi hj
    rw [if_neg hl] at e
    rw [if_pos rfl]
    unfold rstS
    rw [e]
    exact Int.add_comm _ _
  · have h := rstS_bd h1 h2 hi hj
    omega
/-- what a limit below 0 adds to the code -/
theorem code2_limit {limit : Int} {m n : Nat} {X Y U V : Nat → Int} : code2 limit m X Y n U V = if code2 0 m X Y n U V = 0 then (if limit < 0 then 1 else 0) else code2 0 m X Y n U V := by
  unfold code2
  by_cases h1 : m ≤ 30 ∧ n ≤ 30
  · rw [if_pos h1, if_pos h1]
    by_cases h2 : formB m X Y = true ∧ formB n U V = true
    · rw [if_pos h2, if_pos h2, if_neg (by omega : ¬ (0 : Int) < 0), if_pos rfl]
    · rw [if_neg h2, if_neg h2, if_neg (by decide)]
  · rw [if_neg h1, if_neg h1, if_neg (by decide)]
end Go.Proofs.Ytfmcjbddbomohaa
