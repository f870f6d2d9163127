/-
  Outlines that are exchanged, or read from their other ends: the distances are the same. No memory here.
-/
import Derived.Test.YtfmcjbddbomohaaWm
import Derived.Test.YtfmcjbddbomohaaAl
namespace Go.Proofs.Ytfmcjbddbomohaa

theorem nearI_le {x y c : Int} {U V : Nat → Int} (k : Nat) : nearI x y U V k ≤ c ↔ dist x y (U 0) (V 0) ≤ c ∨ ∃ j, j < k ∧ dist x y (U j) (V j) ≤ c := by
  induction k with
  | zero => simp [nearI]
  | succ k ih =>
    have e : nearI x y U V (k + 1) ≤ c ↔ (nearI x y U V k ≤ c ∨ dist x y (U k) (V k) ≤ c) := by simp only [nearI]; omega
    rw [e, ih]
    constructor
    · rintro ((h | ⟨j, hj, h⟩) | h)
      · exact .inl h
      · exact .inr ⟨j, by omega, h⟩
      · exact .inr ⟨k, by omega, h⟩
    · rintro (h | ⟨j, hj, h⟩)
      · exact .inl (.inl h)
      · by_cases e : j = k
        · subst e; exact .inr h
        · exact .inl (.inr ⟨j, by omega, h⟩)
theorem near_le {x y c : Int} {U V : Nat → Int} {n : Nat} (hn : 1 ≤ n) : nearI x y U V n ≤ c ↔ ∃ j, j < n ∧ dist x y (U j) (V j) ≤ c := by
  rw [nearI_le]
  constructor
  · rintro (h | h)
    · exact ⟨0, by omega, h⟩
    · exact h
  · exact .inr
theorem farF_le {c0 c : Int} {X Y U V : Nat → Int} {n : Nat} (k : Nat) : farF c0 X Y U V n k ≤ c ↔ c0 ≤ c ∧ ∀ i, i < k → nearI (X i) (Y i) U V n ≤ c := by
  induction k with
  | zero => simp [farF]
  | succ k ih =>
    have e : farF c0 X Y U V n (k + 1) ≤ c ↔ (farF c0 X Y U V n k ≤ c ∧ nearI (X k) (Y k) U V n ≤ c) := by simp only [farF]; omega
    rw [e, ih]
    constructor
    · rintro ⟨⟨h1, h2⟩, h3⟩
      refine ⟨h1, fun i hi => ?_⟩
      by_cases e : i = k
      · subst e; exact h3
      · exact h2 i (by omega)
    · rintro ⟨h1, h2⟩
      exact ⟨⟨h1, fun i hi => h2 i (by omega)⟩, h2 k (by omega)⟩
theorem haus_le {c : Int} {X Y U V : Nat → Int} {m n : Nat} (hm : 1 ≤ m) (hn : 1 ≤ n) (hc : 0 ≤ c) : haus m X Y n U V ≤ c ↔ (∀ i, i < m → ∃ j, j < n ∧ dist (X i) (Y i) (U j) (V j) ≤ c) ∧ (∀ j, j < n → ∃ i, i < m ∧ dist (U j) (V j) (X i) (Y i) ≤ c) := by
  unfold haus
  rw [farF_le, farF_le]
  constructor
  · rintro ⟨⟨_, h1⟩, h2⟩
    exact ⟨fun i hi => (near_le hn).1 (h1 i hi), fun j hj => (near_le hm).1 (h2 j hj)⟩
  · rintro ⟨h1, h2⟩
    exact ⟨⟨hc, fun i hi => (near_le hn).2 (h1 i hi)⟩, fun j hj => (near_le hm).2 (h2 j hj)⟩
theorem haus_swap_le {X Y U V : Nat → Int} {m n : Nat} (hm : 1 ≤ m) (hn : 1 ≤ n) (h1 : InR m X Y) (h2 : InR n U V) : haus n U V m X Y ≤ haus m X Y n U V := by
  obtain ⟨k1, k2⟩ := (haus_le hm hn (haus_bd h1 h2 hm hn).1).1 (Int.le_refl _)
  exact (haus_le hn hm (haus_bd h1 h2 hm hn).1).2 ⟨k2, k1⟩
theorem haus_swap {X Y U V : Nat → Int} {m n : Nat} (hm : 1 ≤ m) (hn : 1 ≤ n) (h1 : InR m X Y) (h2 : InR n U V) : haus m X Y n U V = haus n U V m X Y :=
  Int.le_antisymm (haus_swap_le hn hm h2 h1) (haus_swap_le hm hn h1 h2)
theorem rev_in {n : Nat} {X Y : Nat → Int} (h : InR n X Y) : InR n (revF n X) (revF n Y) := fun i hi => h (n - 1 - i) (by omega)
theorem rev_rev {n i : Nat} {X : Nat → Int} (h : i < n) : revF n (revF n X) i = X i := by
  show X (n - 1 - (n - 1 - i)) = X i
  rw [show n - 1 - (n - 1 - i) = i by omega]
theorem haus_back_le {X Y U V : Nat → Int} {m n : Nat} (hm : 1 ≤ m) (hn : 1 ≤ n) (h1 : InR m X Y) (h2 : InR n U V) : haus m (revF m X) (revF m Y) n (revF n U) (revF n V) ≤ haus m X Y n U V := by
  obtain ⟨k1, k2⟩ := (haus_le hm hn (haus_bd h1 h2 hm hn).1).1 (Int.le_refl _)
  refine (haus_le hm hn (haus_bd h1 h2 hm hn).1).2 ⟨fun i hi => ?_, fun j hj => ?_⟩
  · obtain ⟨j, hj, h⟩ := k1 (m - 1 - i) (by omega)
    refine ⟨n - 1 - j, by omega, ?_⟩
    show dist (X (m - 1 - i)) (Y (m - 1 - i)) (U (n - 1 - (n - 1 - j))) (V (n - 1 - (n - 1 - j))) ≤ _
    rw [show n - 1 - (n - 1 - j) = j by omega]; exact h
  · obtain ⟨i, hi, h⟩ := k2 (n - 1 - j) (by omega)
    refine ⟨m - 1 - i, by omega, ?_⟩
    show dist (U (n - 1 - j)) (V (n - 1 - j)) (X (m - 1 - (m - 1 - i))) (Y (m - 1 - (m - 1 - i))) ≤ _
    rw [show m - 1 - (m - 1 - i) = i by omega]; exact h
theorem haus_congr_le {X Y U V X' Y' U' V' : Nat → Int} {m n : Nat} (hm : 1 ≤ m) (hn : 1 ≤ n) (h1 : InR m X Y) (h2 : InR n U V) (e1 : ∀ i, i < m → X i = X' i ∧ Y i = Y' i) (e2 : ∀ j, j < n → U j = U' j ∧ V j = V' j) : haus m X' Y' n U' V' ≤ haus m X Y n U V := by
  obtain ⟨k1, k2⟩ := (haus_le hm hn (haus_bd h1 h2 hm hn).1).1 (Int.le_refl _)
  refine (haus_le hm hn (haus_bd h1 h2 hm hn).1).2 ⟨fun i hi => ?_, fun j hj => ?_⟩
  · obtain ⟨j, hj, h⟩ := k1 i hi
    exact ⟨j, hj, by rw [← (e1 i hi).1, ← (e1 i hi).2, ← (e2 j hj).1, ← (e2 j hj).2]; exact h⟩
  · obtain ⟨i, hi, h⟩ := k2 j hj
    exact ⟨i, hi, by rw [← (e1 i hi).1, ← (e1 i hi).2, ← (e2 j hj).1, ← (e2 j hj).2]; exact h⟩
theorem haus_back {X Y U V : Nat → Int} {m n : Nat} (hm : 1 ≤ m) (hn : 1 ≤ n) (h1 : InR m X Y) (h2 : InR n U V) : haus m X Y n U V = haus m (revF m X) (revF m Y) n (revF n U) (revF n V) := by
  refine Int.le_antisymm ?_ (haus_back_le hm hn h1 h2)
  have h3 := haus_back_le hm hn (rev_in h1) (rev_in h2)
  exact Int.le_trans (haus_congr_le hm hn (rev_in (rev_in h1)) (rev_in (rev_in h2)) (fun _ hi => ⟨rev_rev hi, rev_rev hi⟩) (fun _ hj => ⟨rev_rev hj, rev_rev hj⟩)) h3
theorem distF_swap (X Y U V : Nat → Int) (i j : Nat) : distF U V X Y j i = distF X Y U V i j := dist_comm _ _ _ _
theorem fre_swap_le {X Y U V : Nat → Int} {m n : Nat} (hm : 1 ≤ m) (hn : 1 ≤ n) : fre n U V m X Y ≤ fre m X Y n U V := by
  obtain ⟨T, hT⟩ := ends_exist (rst max (distF X Y U V) m n) hm hn
  refine walkM (pathW hm hn hT).swap (fun t ht => ?_)
  have := pathM hm hn hT t ht
  rw [distF_swap]; exact this
theorem fre_swap {X Y U V : Nat → Int} {m n : Nat} (hm : 1 ≤ m) (hn : 1 ≤ n) : fre m X Y n U V = fre n U V m X Y := Int.le_antisymm (fre_swap_le hn hm) (fre_swap_le hm hn)
theorem sum_swap_le {X Y U V : Nat → Int} {m n : Nat} (hm : 1 ≤ m) (hn : 1 ≤ n) : rstS U V X Y n m 0 0 ≤ rstS X Y U V m n 0 0 := by
  obtain ⟨T, hT⟩ := ends_exist (rst addI (distF X Y U V) m n) hm hn
  have h := walkS (F := distF U V X Y) (pathW hm hn hT).swap
  rw [cumS_congr (H := fun t => distF X Y U V (pth m n (rst addI (distF X Y U V) m n) t).1 (pth m n (rst addI (distF X Y U V) m n) t).2) (fun t _ => distF_swap _ _ _ _ _ _), pathS hm hn hT] at h
  exact h
theorem sum_swap {X Y U V : Nat → Int} {m n : Nat} (hm : 1 ≤ m) (hn : 1 ≤ n) : rstS X Y U V m n 0 0 = rstS U V X Y n m 0 0 := Int.le_antisymm (sum_swap_le hn hm) (sum_swap_le hm hn)
theorem distF_rev {X Y U V : Nat → Int} {m n i j : Nat} (hi : i < m) (hj : j < n) : distF (revF m X) (revF m Y) (revF n U) (revF n V) (m - 1 - i) (n - 1 - j) = distF X Y U V i j := by
  show dist (X (m - 1 - (m - 1 - i))) (Y (m - 1 - (m - 1 - i))) (U (n - 1 - (n - 1 - j))) (V (n - 1 - (n - 1 - j))) = _
  rw [show m - 1 - (m - 1 - i) = i by omega, show n - 1 - (n - 1 - j) = j by omega]; rfl
theorem fre_back_le {X Y U V : Nat → Int} {m n : Nat} (hm : 1 ≤ m) (hn : 1 ≤ n) : fre m (revF m X) (revF m Y) n (revF n U) (revF n V) ≤ fre m X Y n U V := by
  obtain ⟨T, hT⟩ := ends_exist (rst max (distF X Y U V) m n) hm hn
  have hW := pathW hm hn hT
  refine walkM hW.rev (fun t ht => ?_)
  have := pathM hm hn hT (T - t) (by omega)
  rw [distF_rev (hW.am (T - t) (by omega)) (hW.bn (T - t) (by omega))]; exact this
theorem fre_back {X Y U V : Nat → Int} {m n : Nat} (hm : 1 ≤ m) (hn : 1 ≤ n) : fre m X Y n U V = fre m (revF m X) (revF m Y) n (revF n U) (revF n V) := by
  refine Int.le_antisymm ?_ (fre_back_le hm hn)
  have h3 := fre_back_le (X := revF m X) (Y := revF m Y) (U := revF n U) (V := revF n V) hm hn
  rw [fre_congr (X' := X) (Y' := Y) (U' := U) (V' := V) hm hn (fun _ hi => ⟨rev_rev hi, rev_rev hi⟩) (fun _ hj => ⟨rev_rev hj, rev_rev hj⟩)] at h3
  exact h3
theorem sum_back_le {X Y U V : Nat → Int} {m n : Nat} (hm : 1 ≤ m) (hn : 1 ≤ n) : rstS (revF m X) (revF m Y) (revF n U) (revF n V) m n 0 0 ≤ rstS X Y U V m n 0 0 := by
  obtain ⟨T, hT⟩ := ends_exist (rst addI (distF X Y U V) m n) hm hn
  have hW := pathW hm hn hT
  have h := walkS (F := distF (revF m X) (revF m Y) (revF n U) (revF n V)) hW.rev
  rw [cumS_congr (H := fun t => distF X Y U V (pth m n (rst addI (distF X Y U V) m n) (T - t)).1 (pth m n (rst addI (distF X Y U V) m n) (T - t)).2) (fun t ht => distF_rev (hW.am (T - t) (by omega)) (hW.bn (T - t) (by omega))), cumS_rev (fun t => distF X Y U V (pth m n (rst addI (distF X Y U V) m n) t).1 (pth m n (rst addI (distF X Y U V) m n) t).2) T, pathS hm hn hT] at h
  exact h
theorem sum_congr {X Y U V X' Y' U' V' : Nat → Int} {m n : Nat} (hm : 1 ≤ m) (hn : 1 ≤ n) (h1 : ∀ i, i < m → X i = X' i ∧ Y i = Y' i) (h2 : ∀ j, j < n → U j = U' j ∧ V j = V' j) : rstS X Y U V m n 0 0 = rstS X' Y' U' V' m n 0 0 :=
  rst_congr (fun i j hi hj => by unfold distF; rw [(h1 i hi).1, (h1 i hi).2, (h2 j hj).1, (h2 j hj).2]) _ 0 0 (by omega) (by omega) rfl
theorem sum_back {X Y U V : Nat → Int} {m n : Nat} (hm : 1 ≤ m) (hn : 1 ≤ n) : rstS X Y U V m n 0 0 = rstS (revF m X) (revF m Y) (revF n U) (revF n V) m n 0 0 := by
  refine Int.le_antisymm ?_ (sum_back_le hm hn)
  have h3 := sum_back_le (X := revF m X) (Y := revF m Y) (U := revF n U) (V := revF n V) hm hn
  rw [sum_congr (X' := X) (Y' := Y) (U' := U) (V' := V) hm hn (fun _ hi => ⟨rev_rev hi, rev_rev hi⟩) (fun _ hj => ⟨rev_rev hj, rev_rev hj⟩)] at h3
  exact h3
end Go.Proofs.Ytfmcjbddbomohaa
