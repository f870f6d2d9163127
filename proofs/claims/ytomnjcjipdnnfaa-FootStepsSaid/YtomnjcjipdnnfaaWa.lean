/-
  Ways along two outlines, one after the other: the triangle inequality. No memory here.
-/
import Derived.Test.YtomnjcjipdnnfaaI
namespace Go.Proofs.Ytomnjcjipdnnfaa

/-- from (i, j) there is a walk to the end, all of whose pairs have G -/
inductive Way (m n : Nat) (G : Nat → Nat → Prop) : Nat → Nat → Prop
  | last {i j : Nat} : i + 1 = m → j + 1 = n → G i j → Way m n G i j
  | step {i j p q : Nat} : i < m → j < n → G i j → i ≤ p → p ≤ i + 1 → j ≤ q → q ≤ j + 1 → i + j < p + q → Way m n G p q → Way m n G i j
theorem Way.here {m n : Nat} {G : Nat → Nat → Prop} {i j : Nat} (h : Way m n G i j) : i < m ∧ j < n ∧ G i j := by
  cases h with
  | last h1 h2 h3 => exact ⟨by omega, by omega, h3⟩
  | step h1 h2 h3 => exact ⟨h1, h2, h3⟩
theorem best3_lo {m n i j p q : Nat} {L : Nat → Nat → Int} (hp : p < m) (hq : q < n) (h1 : i ≤ p) (h2 : p ≤ i + 1) (h3 : j ≤ q) (h4 : q ≤ j + 1) (h5 : i + j < p + q) : best3 m n L i j ≤ L p q := by
  have : (p = i ∧ q = j + 1) ∨ (p = i + 1 ∧ q = j) ∨ (p = i + 1 ∧ q = j + 1) := by omega
  unfold best3
  rcases this with ⟨rfl, rfl⟩ | ⟨rfl, rfl⟩ | ⟨rfl, rfl⟩
  · rw [if_pos hq]; split <;> omega
  · rw [if_pos hp]; split <;> omega
  · rw [if_pos hq, if_pos hp]; omega
theorem Way.mono {m n : Nat} {G H : Nat → Nat → Prop} {i j : Nat} (h : Way m n G i j) (hGH : ∀ i j, G i j → H i j) : Way m n H i j := by
  induction h with
  | last a b c => exact .last a b (hGH _ _ c)
  | step a b c d e f g h _ ih => exact .step a b (hGH _ _ c) d e f g h ih
theorem best3_one (m n : Nat) (L : Nat → Nat → Int) {i j : Nat} (hi : i < m) (hj : j < n) (hl : ¬ (i + 1 = m ∧ j + 1 = n)) : ∃ p q, i ≤ p ∧ p ≤ i + 1 ∧ j ≤ q ∧ q ≤ j + 1 ∧ i + j < p + q ∧ p < m ∧ q < n ∧ best3 m n L i j = L p q := by
  unfold best3
  by_cases h1 : j + 1 < n
  · rw [if_pos h1]
    by_cases h2 : i + 1 < m
    · rw [if_pos h2]
      by_cases e1 : L i (j + 1) ≤ L (i + 1) j
      · by_cases e2 : L i (j + 1) ≤ L (i + 1) (j + 1)
        · exact ⟨i, j + 1, by omega, by omega, by omega, by omega, by omega, by omega, by omega, by omega⟩
        · exact ⟨i + 1, j + 1, by omega, by omega, by omega, by omega, by omega, by omega, by omega, by omega⟩
      · by_cases e2 : L (i + 1) j ≤ L (i + 1) (j + 1)
        · exact ⟨i + 1, j, by omega, by omega, by omega, by omega, by omega, by omega, by omega, by omega⟩
        · exact ⟨i + 1, j + 1, by omega, by omega, by omega, by omega, by omega, by omega, by omega, by omega⟩
    · rw [if_neg h2]
      exact ⟨i, j + 1, by omega, by omega, by omega, by omega, by omega, by omega, by omega, rfl⟩
  · rw [if_neg h1]
    exact ⟨i + 1, j, by omega, by omega, by omega, by omega, by omega, by omega, by omega, rfl⟩
/-- what holds along a way, and of every number below, holds of the table -/
theorem way_rst {m n : Nat} {F : Nat → Nat → Int} {P : Int → Prop} (hP : ∀ a b, P a → b ≤ a → P b) {i j : Nat} (h : Way m n (fun i j => P (F i j)) i j) : P (rst max F m n i j) := by
  induction h with
  | last h1 h2 h3 => rw [rst_eq (by omega) (by omega), if_pos ⟨h1, h2⟩]; exact h3
  | step h1 h2 h3 h4 h5 h6 h7 h8 h9 ih =>
    have g := h9.here
    have hb := best3_lo (L := rst max F m n) g.1 g.2.1 h4 h5 h6 h7 h8
    rw [rst_eq h1 h2]
    split
    · exact h3
    · rcases Int.le_total (F _ _) (best3 m n (rst max F m n) _ _) with e | e
      · rw [Int.max_eq_right e]; exact hP _ _ ih hb
      · rw [Int.max_eq_left e]; exact h3
theorem rst_way {m n : Nat} {F : Nat → Nat → Int} {c : Int} : ∀ d i j, i < m → j < n → (m - 1 - i) + (n - 1 - j) = d → rst max F m n i j ≤ c → Way m n (fun i j => F i j ≤ c) i j := by
  intro d
  induction d using Nat.strongRecOn with
  | ind d ih =>
    intro i j hi hj hd h
    rw [rst_eq hi hj] at h
    by_cases hl : i + 1 = m ∧ j + 1 = n
    · rw [if_pos hl] at h
      exact .last hl.1 hl.2 h
    · rw [if_neg hl] at h
      obtain ⟨p, q, g1, g2, g3, g4, g5, g6, g7, g8⟩ := best3_one m n (rst max F m n) hi hj hl
      rw [g8] at h
      exact .step hi hj (by omega) g1 g2 g3 g4 g5 (ih _ (by omega) p q g6 g7 rfl (by omega))
theorem way_both {m n r : Nat} {G H : Nat → Nat → Prop} : ∀ d i j k, (m - i) + (n - j) + (r - k) = d → Way m n G i j → Way n r H j k → Way m r (fun i k => ∃ j, j < n ∧ G i j ∧ H j k) i k := by
  intro d
  induction d using Nat.strongRecOn with
  | ind d ih =>
    intro i j k hd h g
    have h0 := h.here
    have g0 := g.here
    have hG : ∃ j, j < n ∧ G i j ∧ H j k := ⟨j, h0.2.1, h0.2.2, g0.2.2⟩
    cases h with
    | last a1 a2 a3 =>
      cases g with
      | last b1 b2 b3 => exact .last a1 b2 hG
      | @step _ _ j' k' b1 b2 b3 b4 b5 b6 b7 b8 b9 =>
        have g9 := b9.here
        obtain rfl : j' = j := by omega
        exact .step (by omega) b2 hG (Nat.le_refl _) (by omega) b6 b7 (by omega) (ih _ (by omega) i j' k' rfl (.last a1 a2 a3) b9)
    | @step _ _ i' j' a1 a2 a3 a4 a5 a6 a7 a8 a9 =>
      have h9 := a9.here
      by_cases e : j' = j
      · subst e
        exact .step a1 g0.2.1 hG a4 a5 (Nat.le_refl _) (by omega) (by omega) (ih _ (by omega) i' j' k rfl a9 g)
      · cases g with
        | last b1 b2 b3 => omega
        | @step _ _ j'' k' b1 b2 b3 b4 b5 b6 b7 b8 b9 =>
          have g9 := b9.here
          by_cases e2 : j'' = j
          · subst e2
            exact .step a1 b2 hG (Nat.le_refl _) (by omega) b6 b7 (by omega) (ih _ (by omega) i j'' k' rfl (.step a1 a2 a3 a4 a5 a6 a7 a8 a9) b9)
          · obtain rfl : j'' = j' := by omega
            have hw := ih _ (by omega) i' j'' k' rfl a9 b9
            by_cases e3 : i' = i ∧ k' = k
            · obtain ⟨rfl, rfl⟩ := e3
              exact hw
            · exact .step a1 b2 hG a4 a5 b6 b7 (by omega) hw
theorem sq_pos0 (a : Int) : 0 ≤ a * a := by rcases Int.le_total 0 a with h | h; exact Int.mul_nonneg h h; exact Int.mul_nonneg_of_nonpos_of_nonpos h h
/-- the root of a is at most the sum of the roots of c and d -/
def Root3 (a c d : Int) : Prop := a - (c + d) ≤ 0 ∨ (a - (c + d)) * (a - (c + d)) ≤ 4 * (c * d)
theorem root3_down {c d : Int} (a b : Int) (h : Root3 a c d) (hb : b ≤ a) : Root3 b c d := by
  unfold Root3 at *
  rcases h with h | h
  · left; omega
  · by_cases e : b - (c + d) ≤ 0
    · exact Or.inl e
    · right
      have h1 : (b - (c + d)) * (b - (c + d)) ≤ (a - (c + d)) * (a - (c + d)) := Int.mul_le_mul (by omega) (by omega) (by omega) (by omega)
      omega
theorem dist_root {x y u v p q c d : Int} (h1 : dist x y u v ≤ c) (h2 : dist u v p q ≤ d) : Root3 (dist x y p q) c d := by
  unfold dist at *
  unfold Root3
  generalize e1 : x - u = a1 at *
  generalize e2 : y - v = a2 at *
  generalize e3 : u - p = b1 at *
  generalize e4 : v - q = b2 at *
  have e5 : x - p = a1 + b1 := by omega
  have e6 : y - q = a2 + b2 := by omega
  rw [e5, e6]
  have hk : (a1 + b1) * (a1 + b1) + (a2 + b2) * (a2 + b2) = (a1 * a1 + a2 * a2) + (b1 * b1 + b2 * b2) + 2 * (a1 * b1 + a2 * b2) := by grind
  have hs : (a1 * b1 + a2 * b2) * (a1 * b1 + a2 * b2) + (a1 * b2 - a2 * b1) * (a1 * b2 - a2 * b1) = (a1 * a1 + a2 * a2) * (b1 * b1 + b2 * b2) := by grind
  have hp := (sq_pos0 (a1 * b2 - a2 * b1))
  have n1 := sq_pos0 a1
  have n2 := sq_pos0 a2
  have n3 := sq_pos0 b1
  have n4 := sq_pos0 b2
  have hm : (a1 * a1 + a2 * a2) * (b1 * b1 + b2 * b2) ≤ c * d := Int.mul_le_mul h1 h2 (by omega) (by omega)
  rw [hk]
  generalize a1 * b1 + a2 * b2 = t at *
  generalize a1 * a1 + a2 * a2 = cc at *
  generalize b1 * b1 + b2 * b2 = dd at *
  by_cases e : cc + dd + 2 * t - (c + d) ≤ 0
  · exact Or.inl e
  · right
    have h3 : (cc + dd + 2 * t - (c + d)) * (cc + dd + 2 * t - (c + d)) ≤ (2 * t) * (2 * t) := Int.mul_le_mul (by omega) (by omega) (by omega) (by omega)
    have h4 : (2 * t) * (2 * t) = 4 * (t * t) := by grind
    omega
theorem fre_three {X Y U V P Q : Nat → Int} {m n r : Nat} (hm : 1 ≤ m) (hn : 1 ≤ n) (hr : 1 ≤ r) : Root3 (fre m X Y r P Q) (fre m X Y n U V) (fre n U V r P Q) := by
  have w1 := rst_way (F := distF X Y U V) (c := fre m X Y n U V) _ 0 0 hm hn rfl (Int.le_refl _)
  have w2 := rst_way (F := distF U V P Q) (c := fre n U V r P Q) _ 0 0 hn hr rfl (Int.le_refl _)
  have w3 := way_both _ 0 0 0 rfl w1 w2
  refine way_rst (P := fun a => Root3 a (fre m X Y n U V) (fre n U V r P Q)) root3_down (F := distF X Y P Q) (?_ : Way m r _ 0 0)
  revert w3
  generalize hG : (fun i k => ∃ j, j < n ∧ distF X Y U V i j ≤ fre m X Y n U V ∧ distF U V P Q j k ≤ fre n U V r P Q) = G
  intro w3
  have hGG : ∀ i k, G i k → Root3 (distF X Y P Q i k) (fre m X Y n U V) (fre n U V r P Q) := by
    subst hG
    rintro i k ⟨j, _, a, b⟩
    exact dist_root a b
  clear hG
  exact w3.mono hGG
/-- near a point -/
theorem nearI_le {x y : Int} {U V : Nat → Int} (n : Nat) : (∀ j, j < n → nearI x y U V n ≤ dist x y (U j) (V j)) ∧ ∃ j, (j < n ∨ j = 0) ∧ nearI x y U V n = dist x y (U j) (V j) := by
  induction n with
  | zero => exact ⟨fun j hj => by omega, 0, Or.inr rfl, rfl⟩
  | succ n ih =>
    simp only [nearI]
    refine ⟨fun j hj => ?_, ?_⟩
    · by_cases e2 : j = n
      · subst e2; omega
      · have := ih.1 j (by omega); omega
    · obtain ⟨j, h1, h2⟩ := ih.2
      by_cases e2 : nearI x y U V n ≤ dist x y (U n) (V n)
      · exact ⟨j, by omega, by omega⟩
      · exact ⟨n, by omega, by omega⟩
theorem far_of {P : Int → Prop} (hP : ∀ a b, P a → b ≤ a → P b) {c : Int} (hc : P c) {X Y U V : Nat → Int} {n : Nat} (k : Nat) (h : ∀ i, i < k → ∃ j, j < n ∧ P (dist (X i) (Y i) (U j) (V j))) : P (farF c X Y U V n k) := by
  induction k with
  | zero => exact hc
  | succ k ih =>
    simp only [farF]
    have h1 := ih (fun i hi => h i (by omega))
    obtain ⟨j, hj, hp⟩ := h k (by omega)
    have h2 := hP _ _ hp ((nearI_le n).1 j hj)
    rcases Int.le_total (farF c X Y U V n k) (nearI (X k) (Y k) U V n) with e | e
    · rw [Int.max_eq_right e]; exact h2
    · rw [Int.max_eq_left e]; exact h1
theorem far_to {c e : Int} {X Y U V : Nat → Int} {n : Nat} (hn : 1 ≤ n) (k : Nat) (h : farF c X Y U V n k ≤ e) : c ≤ e ∧ ∀ i, i < k → ∃ j, j < n ∧ dist (X i) (Y i) (U j) (V j) ≤ e := by
  induction k with
  | zero => exact ⟨h, fun i hi => by omega⟩
  | succ k ih =>
    simp only [farF] at h
    obtain ⟨h1, h2⟩ := ih (by omega)
    refine ⟨h1, fun i hi => ?_⟩
    by_cases e2 : i = k
    · subst e2
      obtain ⟨j, hj, hv⟩ := (nearI_le (x := X i) (y := Y i) (U := U) (V := V) n).2
      exact ⟨j, by omega, by omega⟩
    · exact h2 i (by omega)
theorem haus_three {X Y U V P Q : Nat → Int} {m n r : Nat} (hm : 1 ≤ m) (hn : 1 ≤ n) (hr : 1 ≤ r) (c0 : 0 ≤ haus m X Y n U V) (d0 : 0 ≤ haus n U V r P Q) : Root3 (haus m X Y r P Q) (haus m X Y n U V) (haus n U V r P Q) := by
  have a1 := far_to (e := haus m X Y n U V) hm n (Int.le_refl _)
  have a2 := far_to (e := haus m X Y n U V) hn m a1.1
  have b1 := far_to (e := haus n U V r P Q) hn r (Int.le_refl _)
  have b2 := far_to (e := haus n U V r P Q) hr n b1.1
  refine far_of (P := fun a => Root3 a (haus m X Y n U V) (haus n U V r P Q)) root3_down (far_of root3_down ?_ _ (fun i hi => ?_)) _ (fun i hi => ?_)
  · left; omega
  · obtain ⟨j, hj, h1⟩ := a2.2 i hi
    obtain ⟨k, hk, h2⟩ := b2.2 j hj
    exact ⟨k, hk, dist_root h1 h2⟩
  · obtain ⟨j, hj, h1⟩ := b1.2 i hi
    obtain ⟨k, hk, h2⟩ := a1.2 j hj
    refine ⟨k, hk, ?_⟩
    rw [dist_comm]
    rw [dist_comm] at h1 h2
    exact dist_root h2 h1
/-- the points of a short form are near -/
theorem short_way {A B : Nat → Int} {lim : Int} {n T : Nat} {s : Nat → Nat} (hl : 0 ≤ lim) (hlast : s T + 1 = n) (hs : ∀ t, t < T → ∃ k, s t ≤ k ∧ k < s (t + 1) ∧ (∀ p, s t < p → p ≤ k → dist (A p) (B p) (A (s t)) (B (s t)) ≤ lim) ∧ ∀ p, k < p → p < s (t + 1) → dist (A p) (B p) (A (s (t + 1))) (B (s (t + 1))) ≤ lim) (hlow : ∀ t, t ≤ T → s t < n) :
    ∀ d t, t + d = T → Way (T + 1) n (fun t p => dist (A (s t)) (B (s t)) (A p) (B p) ≤ lim) t (s t) := by
  have hself : ∀ i, dist (A i) (B i) (A i) (B i) ≤ lim := by intro i; unfold dist; simp; exact hl
  intro d
  induction d with
  | zero => intro t ht; exact .last (by omega) (by rw [show t = T by omega]; exact hlast) (hself _)
  | succ d ih =>
    intro t ht
    have h1 := ih (t + 1) (by omega)
    obtain ⟨k, k1, k2, k3, k4⟩ := hs t (by omega)
    have hlo := hlow (t + 1) (by omega)
    have down : ∀ e p, p + e = s (t + 1) → k < p → Way (T + 1) n (fun t p => dist (A (s t)) (B (s t)) (A p) (B p) ≤ lim) (t + 1) p := by
      intro e
      induction e with
      | zero => intro p hp _; rw [show p = s (t + 1) by omega]; exact h1
      | succ e ih2 =>
        intro p hp hk
        exact .step (by omega) (by omega) (by rw [dist_comm]; exact k4 p hk (by omega)) (Nat.le_refl _) (by omega) (by omega : p ≤ p + 1) (Nat.le_refl _) (by omega) (ih2 (p + 1) (by omega) (by omega))
    have up : ∀ e p, p + e = k → s t ≤ p → Way (T + 1) n (fun t p => dist (A (s t)) (B (s t)) (A p) (B p) ≤ lim) t p := by
      intro e
      induction e with
      | zero =>
        intro p hp hk
        obtain rfl : p = k := by omega
        refine .step (by omega) (by omega) ?_ (by omega : t ≤ t + 1) (Nat.le_refl _) (by omega : p ≤ p + 1) (Nat.le_refl _) (by omega) (down (s (t + 1) - (p + 1)) (p + 1) (by omega) (by omega))
        by_cases e2 : p = s t
        · rw [e2]; exact hself _
        · rw [dist_comm]; exact k3 p (by omega) (Nat.le_refl _)
      | succ e ih2 =>
        intro p hp hk
        refine .step (by omega) (by omega) ?_ (Nat.le_refl _) (by omega) (by omega : p ≤ p + 1) (Nat.le_refl _) (by omega) (ih2 (p + 1) (by omega) (by omega))
        by_cases e2 : p = s t
        · rw [e2]; exact hself _
        · rw [dist_comm]; exact k3 p (by omega) (by omega)
    exact up (k - s t) (s t) (by omega) (Nat.le_refl _)
end Go.Proofs.Ytomnjcjipdnnfaa
