/-
  Outlines that begin at another point. No memory here.
-/
import Derived.Test.YtfmcjbddbomohaaKb
namespace Go.Proofs.Ytfmcjbddbomohaa

theorem rst_congr {jn : Int → Int → Int} {F F' : Nat → Nat → Int} {m n : Nat} (h : ∀ i j, i < m → j < n → F i j = F' i j) : ∀ d i j, i < m → j < n → (m - 1 - i) + (n - 1 - j) = d → rst jn F m n i j = rst jn F' m n i j := by
  intro d
  induction d using Nat.strongRecOn with
  | ind d ih =>
    intro i j hi hj hd
    rw [rst_eq hi hj, rst_eq hi hj]
    by_cases hl : i + 1 = m ∧ j + 1 = n
    · rw [if_pos hl, if_pos hl, h i j hi hj]
    · rw [if_neg hl, if_neg hl, h i j hi hj, best3_congr hi hj hl (fun p q hp hq h1 h2 h3 => ih ((m - 1 - p) + (n - 1 - q)) (by omega) p q hp hq rfl)]
theorem fre_congr {m n : Nat} {X Y U V X' Y' U' V' : Nat → Int} (hm : 1 ≤ m) (hn : 1 ≤ n) (h1 : ∀ i, i < m → X i = X' i ∧ Y i = Y' i) (h2 : ∀ j, j < n → U j = U' j ∧ V j = V' j) : fre m X Y n U V = fre m X' Y' n U' V' :=
  rst_congr (fun i j hi hj => by unfold distF; rw [(h1 i hi).1, (h1 i hi).2, (h2 j hj).1, (h2 j hj).2]) _ 0 0 (by omega) (by omega) rfl
theorem rotF_zero {n i : Nat} {U : Nat → Int} (h : i < n) : rotF n 0 U i = U i := by
  unfold rotF catF
  rw [if_pos (by omega)]; rfl
theorem freR_zero {m n : Nat} {X Y U V : Nat → Int} (hm : 1 ≤ m) (hn : 1 ≤ n) : freR m X Y n U V 0 = fre m X Y n U V :=
  fre_congr hm hn (fun _ _ => ⟨rfl, rfl⟩) (fun _ hj => ⟨rotF_zero hj, rotF_zero hj⟩)
theorem rotF_mod {n k i : Nat} {U : Nat → Int} (hk : k < n) (hi : i < n) : rotF n k U i = U ((i + k) % n) := by
  unfold rotF catF
  by_cases h : i < n - k
  · rw [if_pos h, Nat.mod_eq_of_lt (by omega)]
  · rw [if_neg h]
    congr 1
    rw [Nat.mod_eq_sub_mod (by omega), Nat.mod_eq_of_lt (by omega)]
    omega
theorem rot_rot {n k j i : Nat} {U : Nat → Int} (hk : k < n) (hj : j < n) (hi : i < n) : rotF n j (rotF n k U) i = rotF n ((j + k) % n) U i := by
  have hn : 0 < n := by omega
  rw [rotF_mod hj hi, rotF_mod hk (Nat.mod_lt _ hn), rotF_mod (Nat.mod_lt _ hn) hi, Nat.mod_add_mod, Nat.add_mod_mod, Nat.add_assoc]
theorem freR_rot {m n k j : Nat} {X Y U V : Nat → Int} (hm : 1 ≤ m) (hk : k < n) (hj : j < n) : freR m X Y n (rotF n k U) (rotF n k V) j = freR m X Y n U V ((j + k) % n) :=
  fre_congr hm (by omega) (fun _ _ => ⟨rfl, rfl⟩) (fun _ hi => ⟨rot_rot hk hj hi, rot_rot hk hj hi⟩)
theorem tnd_step (m : Nat) (X Y : Nat → Int) (n : Nat) (U V : Nat → Int) (k : Nat) : tnd m X Y n U V (k + 1) = if freR m X Y n U V k < (tnd m X Y n U V k).1 then (freR m X Y n U V k, k) else tnd m X Y n U V k := rfl
theorem tnd_min {m n : Nat} {X Y U V : Nat → Int} (k : Nat) : (tnd m X Y n U V k).1 ≤ fre m X Y n U V ∧ ∀ j, j < k → (tnd m X Y n U V k).1 ≤ freR m X Y n U V j := by
  induction k with
  | zero => exact ⟨Int.le_refl _, fun j hj => absurd hj (by omega)⟩
  | succ k ih =>
    rw [tnd_step]
    by_cases h : freR m X Y n U V k < (tnd m X Y n U V k).1
    · rw [if_pos h]
      refine ⟨by have := ih.1; simp only; omega, fun j hj => ?_⟩
      by_cases e : j = k
      · subst e; exact Int.le_refl _
      · have := ih.2 j (by omega); simp only; omega
    · rw [if_neg h]
      refine ⟨ih.1, fun j hj => ?_⟩
      by_cases e : j = k
      · subst e; omega
      · exact ih.2 j (by omega)
theorem tnd_hit {m n : Nat} {X Y U V : Nat → Int} (hm : 1 ≤ m) (hn : 1 ≤ n) (k : Nat) (hk : k ≤ n) : (tnd m X Y n U V k).2 < n ∧ (tnd m X Y n U V k).1 = freR m X Y n U V (tnd m X Y n U V k).2 := by
  induction k with
  | zero => exact ⟨hn, (freR_zero hm hn).symm⟩
  | succ k ih =>
    rw [tnd_step]
    by_cases h : freR m X Y n U V k < (tnd m X Y n U V k).1
    · rw [if_pos h]; exact ⟨by simp only; omega, rfl⟩
    · rw [if_neg h]; exact ih (by omega)
/-- turning changes nothing -/
theorem tnd_rot {m n k : Nat} {X Y U V : Nat → Int} (hm : 1 ≤ m) (hk : k < n) : (tnd m X Y n (rotF n k U) (rotF n k V) n).1 = (tnd m X Y n U V n).1 := by
  have hn : 1 ≤ n := by omega
  have h1 := tnd_hit (X := X) (Y := Y) (U := U) (V := V) hm hn n (Nat.le_refl _)
  have h2 := tnd_hit (X := X) (Y := Y) (U := rotF n k U) (V := rotF n k V) hm hn n (Nat.le_refl _)
  have h3 := (tnd_min (m := m) (n := n) (X := X) (Y := Y) (U := U) (V := V) n).2
  have h4 := (tnd_min (m := m) (n := n) (X := X) (Y := Y) (U := rotF n k U) (V := rotF n k V) n).2
  have h5 := h3 _ (Nat.mod_lt ((tnd m X Y n (rotF n k U) (rotF n k V) n).2 + k) (show 0 < n by omega))
  rw [← freR_rot hm hk h2.1, ← h2.2] at h5
  have hb : ((tnd m X Y n U V n).2 + (n - k)) % n < n := Nat.mod_lt _ (by omega)
  have h6 := h4 _ hb
  rw [freR_rot hm hk hb, Nat.mod_add_mod, show (tnd m X Y n U V n).2 + (n - k) + k = (tnd m X Y n U V n).2 + n by omega, Nat.add_mod_right, Nat.mod_eq_of_lt h1.1, ← h1.2] at h6
  omega
theorem dist_self (x y : Int) : dist x y x y = 0 := by unfold dist; simp
theorem fre_self {m : Nat} {X Y : Nat → Int} (h : InR m X Y) (hm : 1 ≤ m) : fre m X Y m X Y = 0 := by
  have hb : ∀ i j, i < m → j < m → 0 ≤ distF X Y X Y i j ∧ distF X Y X Y i j ≤ 8000000 := fun i j hi hj => dist_bd (h i hi).1 (h i hi).2 (h j hj).1 (h j hj).2
  have key : ∀ d i, i < m → m - 1 - i = d → rst max (distF X Y X Y) m m i i = 0 := by
    intro d
    induction d with
    | zero =>
      intro i hi hd
      rw [rst_eq hi hi, if_pos (by omega)]
      exact dist_self _ _
    | succ d ih =>
      intro i hi hd
      have h1 := ih (i + 1) (by omega) (by omega)
      have h0 := rst_max_bd hb hi hi
      rw [rst_eq hi hi, if_neg (by omega)] at h0 ⊢
      have e : distF X Y X Y i i = 0 := dist_self _ _
      have hb3 : best3 m m (rst max (distF X Y X Y) m m) i i ≤ 0 := by
        unfold best3
        rw [if_pos (by omega), if_pos (by omega), h1]
        omega
      rw [e] at h0 ⊢
      omega
  exact key (m - 1 - 0) 0 (by omega) rfl
theorem tnd_self {m k : Nat} {X Y : Nat → Int} (h : InR m X Y) (hk : k < m) : (tnd m X Y m (rotF m k X) (rotF m k Y) m).1 = 0 := by
  have hm : 1 ≤ m := by omega
  rw [tnd_rot hm hk]
  have h1 := (tnd_min (m := m) (n := m) (X := X) (Y := Y) (U := X) (V := Y) m).1
  rw [fre_self h hm] at h1
  have h2 := tnd_hit (X := X) (Y := Y) (U := X) (V := Y) hm hm m (Nat.le_refl _)
  have h3 := fre_bd h (rot_in (by omega : (tnd m X Y m X Y m).2 ≤ m) h) hm hm
  have h4 : (tnd m X Y m X Y m).1 = fre m X Y m (rotF m (tnd m X Y m X Y m).2 X) (rotF m (tnd m X Y m X Y m).2 Y) := h2.2
  omega
end Go.Proofs.Ytfmcjbddbomohaa
