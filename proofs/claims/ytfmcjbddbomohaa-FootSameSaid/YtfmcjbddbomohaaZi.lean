/-
  Walks that keep within a limit: the sums of 0 and 1. No memory here.
-/
import Derived.Test.YtfmcjbddbomohaaPk
namespace Go.Proofs.Ytfmcjbddbomohaa

def F01 (X Y U V : Nat → Int) (limit : Int) : Nat → Nat → Int := fun i j => if distF X Y U V i j ≤ limit then 0 else 1
def rstB (X Y U V : Nat → Int) (limit : Int) (m n : Nat) : Nat → Nat → Int := rst addI (F01 X Y U V limit) m n
theorem F01_bd (X Y U V : Nat → Int) (limit : Int) (i j : Nat) : 0 ≤ F01 X Y U V limit i j ∧ F01 X Y U V limit i j ≤ 1 := by
  unfold F01; split <;> omega
theorem rstB_bd {X Y U V : Nat → Int} {limit : Int} {m n i j : Nat} (hi : i < m) (hj : j < n) : 0 ≤ rstB X Y U V limit m n i j ∧ rstB X Y U V limit m n i j ≤ 1 * ((((m - 1 - i) + (n - 1 - j) : Nat) : Int) + 1) :=
  rst_sum_bd (B := 1) (by omega) (fun i j _ _ => F01_bd X Y U V limit i j) _ i j hi hj rfl
theorem zero_iff {X Y U V : Nat → Int} {limit : Int} {m n : Nat} : ∀ d i j, i < m → j < n → (m - 1 - i) + (n - 1 - j) = d → (rstB X Y U V limit m n i j = 0 ↔ rstM X Y U V m n i j ≤ limit) := by
  intro d
  induction d using Nat.strongRecOn with
  | ind d ih =>
    intro i j hi hj hd
    have e1 : rstB X Y U V limit m n i j = _ := rst_eq (jn := addI) (F := F01 X Y U V limit) hi hj
    have e2 : rstM X Y U V m n i j = _ := rst_eq (jn := max) (F := distF X Y U V) hi hj
    rw [e1, e2]
    have hF : F01 X Y U V limit i j = 0 ↔ distF X Y U V i j ≤ limit := by unfold F01; split <;> omega
    have hF0 := F01_bd X Y U V limit i j
    by_cases hl : i + 1 = m ∧ j + 1 = n
    · rw [if_pos hl, if_pos hl]; exact hF
    · rw [if_neg hl, if_neg hl]
      have ht : ∀ p q, p < m → q < n → i ≤ p → j ≤ q → i + j < p + q → (rst addI (F01 X Y U V limit) m n p q = 0 ↔ rst max (distF X Y U V) m n p q ≤ limit) ∧ 0 ≤ rst addI (F01 X Y U V limit) m n p q := fun p q hp hq h1 h2 h3 => ⟨ih ((m - 1 - p) + (n - 1 - q)) (by omega) p q hp hq rfl, (rstB_bd (X := X) (Y := Y) (U := U) (V := V) (limit := limit) hp hq).1⟩
      have hb : (best3 m n (rst addI (F01 X Y U V limit) m n) i j = 0 ↔ best3 m n (rst max (distF X Y U V) m n) i j ≤ limit) ∧ 0 ≤ best3 m n (rst addI (F01 X Y U V limit) m n) i j := by
        unfold best3
        by_cases h1 : j + 1 < n
        · rw [if_pos h1, if_pos h1]
          have k1 := ht i (j + 1) hi h1 (by omega) (by omega) (by omega)
          by_cases h2 : i + 1 < m
          · rw [if_pos h2, if_pos h2]
            have k2 := ht (i + 1) j h2 hj (by omega) (by omega) (by omega)
            have k3 := ht (i + 1) (j + 1) h2 h1 (by omega) (by omega) (by omega)
            omega
          · rw [if_neg h2, if_neg h2]; exact k1
        · rw [if_neg h1, if_neg h1]; exact ht (i + 1) j (by omega) hj (by omega) (by omega) (by omega)
      unfold addI at hb ⊢
      omega
theorem path_zero {X Y U V : Nat → Int} {limit : Int} {m n : Nat} (hm : 1 ≤ m) (hn : 1 ≤ n) (h0 : rstM X Y U V m n 0 0 ≤ limit) (t : Nat) (h : ∀ u, u < t → ¬ ((pth m n (rstB X Y U V limit m n) u).1 + 1 = m ∧ (pth m n (rstB X Y U V limit m n) u).2 + 1 = n)) : rstB X Y U V limit m n (pth m n (rstB X Y U V limit m n) t).1 (pth m n (rstB X Y U V limit m n) t).2 = 0 := by
  induction t with
  | zero => exact (zero_iff _ 0 0 (by omega) (by omega) rfl).2 h0
  | succ t ih =>
    have hz := ih (fun u hu => h u (by omega))
    have h1 := pth_in (L := rstB X Y U V limit m n) hm hn t (fun u hu => h u (by omega))
    have h2 := nxt_spec (L := rstB X Y U V limit m n) h1.1 h1.2.1 (h t (by omega))
    have e : rstB X Y U V limit m n (pth m n (rstB X Y U V limit m n) (t + 1)).1 (pth m n (rstB X Y U V limit m n) (t + 1)).2 = best3 m n (rstB X Y U V limit m n) (pth m n (rstB X Y U V limit m n) t).1 (pth m n (rstB X Y U V limit m n) t).2 := h2.2.2.2.2.2.2.2
    have e2 := rst_eq (jn := addI) (F := F01 X Y U V limit) h1.1 h1.2.1
    rw [if_neg (h t (by omega))] at e2
    have e3 : rstB X Y U V limit m n (pth m n (rstB X Y U V limit m n) t).1 (pth m n (rstB X Y U V limit m n) t).2 = F01 X Y U V limit (pth m n (rstB X Y U V limit m n) t).1 (pth m n (rstB X Y U V limit m n) t).2 + best3 m n (rstB X Y U V limit m n) (pth m n (rstB X Y U V limit m n) t).1 (pth m n (rstB X Y U V limit m n) t).2 := e2
    have hb1 := F01_bd X Y U V limit (pth m n (rstB X Y U V limit m n) t).1 (pth m n (rstB X Y U V limit m n) t).2
    have hb2 := (rstB_bd (X := X) (Y := Y) (U := U) (V := V) (limit := limit) h2.1 h2.2.1).1
    have e4 : rstB X Y U V limit m n (nxt m n (rstB X Y U V limit m n) (pth m n (rstB X Y U V limit m n) t).1 (pth m n (rstB X Y U V limit m n) t).2).1 (nxt m n (rstB X Y U V limit m n) (pth m n (rstB X Y U V limit m n) t).1 (pth m n (rstB X Y U V limit m n) t).2).2 = best3 m n (rstB X Y U V limit m n) (pth m n (rstB X Y U V limit m n) t).1 (pth m n (rstB X Y U V limit m n) t).2 := h2.2.2.2.2.2.2.2
    rw [e4] at hb2
    rw [e]
    omega
end Go.Proofs.Ytfmcjbddbomohaa
