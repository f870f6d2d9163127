/-
  How few indices a short form takes, and the first of the shortest ones.
-/
import Derived.Test.YtomnjcjipdnnfabSk
namespace Go.Proofs.Ytomnjcjipdnnfab
open Go.RowKit Go.Deep

/-- F says of each point from k on how few indices come after it -/
structure FewAt (n : Nat) (J : Nat → Nat → Prop) (F : Nat → Nat) (k : Nat) : Prop where
  last : F (n - 1) = 0
  has : ∀ i, k ≤ i → i + 1 < n → ∃ j, i < j ∧ j < n ∧ J i j ∧ F i = F j + 1
  least : ∀ i j, k ≤ i → i < j → j < n → J i j → F i ≤ F j + 1
theorem few_le {n : Nat} {J J' : Nat → Nat → Prop} {F G : Nat → Nat} (h : FewAt n J F 0) (g : FewAt n J' G 0) (hJ : ∀ i j, i < j → j < n → J i j → J' i j) : ∀ d i, d + i + 1 = n → G i ≤ F i := by
  intro d
  induction d using Nat.strongRecOn with
  | ind d ih =>
    intro i hi
    by_cases e : d = 0
    · obtain rfl : i = n - 1 := by omega
      rw [g.last]; omega
    · obtain ⟨j, h1, h2, h3, h4⟩ := h.has i (by omega) (by omega)
      have := g.least i j (by omega) h1 h2 (hJ i j h1 h2 h3)
      have := ih (n - 1 - j) (by omega) j (by omega)
      omega
theorem few_same {n : Nat} {J : Nat → Nat → Prop} {F G : Nat → Nat} (h : FewAt n J F 0) (g : FewAt n J G 0) (i : Nat) (hi : i < n) : F i = G i := by
  have := few_le h g (fun _ _ _ _ h => h) (n - 1 - i) i (by omega)
  have := few_le g h (fun _ _ _ _ h => h) (n - 1 - i) i (by omega)
  omega
theorem few_zero {n : Nat} {J : Nat → Nat → Prop} {F : Nat → Nat} {k : Nat} (h : FewAt n J F k) {i : Nat} (hk : k ≤ i) (hi : i < n) (h0 : F i = 0) : i = n - 1 := by
  by_cases e : i + 1 < n
  · obtain ⟨j, _, _, _, h4⟩ := h.has i hk e
    omega
  · omega
theorem few_lt {n : Nat} {J : Nat → Nat → Prop} {F : Nat → Nat} {k : Nat} (h : FewAt n J F k) (hJ1 : ∀ i, i + 1 < n → J i (i + 1)) : ∀ d i, k ≤ i → d + i + 1 = n → F i ≤ d := by
  intro d
  induction d with
  | zero => intro i hk hi; rw [show i = n - 1 by omega, h.last]; omega
  | succ d ih =>
    intro i hk hi
    have := h.least i (i + 1) hk (by omega) (by omega) (hJ1 i (by omega))
    have := ih (i + 1) (by omega) (by omega)
    omega
/-- the next index after i: the first one from which one index less is left -/
structure NextAt (n : Nat) (J : Nat → Nat → Prop) (F : Nat → Nat) (i j : Nat) : Prop where
  up : i < j
  low : j < n
  join : J i j
  few : F i = F j + 1
  first : ∀ p, i < p → p < j → ¬ (J i p ∧ F i = F p + 1)
theorem next_same {n : Nat} {J : Nat → Nat → Prop} {F : Nat → Nat} {i j k : Nat} (h : NextAt n J F i j) (g : NextAt n J F i k) : j = k := by
  rcases Nat.lt_trichotomy j k with h1 | h1 | h1
  · exact absurd ⟨h.join, h.few⟩ (g.first j h.up h1)
  · exact h1
  · exact absurd ⟨g.join, g.few⟩ (h.first k g.up h1)
/-- s is the shortest form up to its index t -/
structure ShortTo (n : Nat) (J : Nat → Nat → Prop) (F : Nat → Nat) (s : Nat → Nat) (t : Nat) : Prop where
  zero : s 0 = 0
  few : ∀ i, i ≤ t → F (s i) + i = F 0
  low : ∀ i, i ≤ t → s i < n
  next : ∀ i, i < t → NextAt n J F (s i) (s (i + 1))
theorem short_same {n : Nat} {J : Nat → Nat → Prop} {F : Nat → Nat} {s r : Nat → Nat} {t : Nat} (h : ShortTo n J F s t) (g : ShortTo n J F r t) : ∀ i, i ≤ t → s i = r i := by
  intro i
  induction i with
  | zero => intro _; rw [h.zero, g.zero]
  | succ i ih =>
    intro hi
    have a := h.next i (by omega)
    have b := g.next i (by omega)
    rw [ih (by omega)] at a
    exact next_same a b
theorem short_last {n : Nat} {J : Nat → Nat → Prop} {F : Nat → Nat} {s : Nat → Nat} (hF : FewAt n J F 0) (h : ShortTo n J F s (F 0)) : s (F 0) = n - 1 := by
  have := h.few (F 0) (Nat.le_refl _)
  exact few_zero hF (Nat.zero_le _) (h.low _ (Nat.le_refl _)) (by omega)
theorem short_other {n : Nat} {J : Nat → Nat → Prop} {F G : Nat → Nat} {s : Nat → Nat} {t : Nat} (hn : 0 < n) (hFG : ∀ i, i < n → F i = G i) (h : ShortTo n J F s t) : ShortTo n J G s t where
  zero := h.zero
  few := fun i hi => by rw [← hFG _ (h.low i hi), ← hFG 0 hn]; exact h.few i hi
  low := h.low
  next := fun i hi => by
    have a := h.next i hi
    have b := hFG _ (h.low i (by omega))
    exact ⟨a.up, a.low, a.join, by rw [← b, ← hFG _ a.low]; exact a.few, fun p h1 h2 h3 => a.first p h1 h2 ⟨h3.1, by rw [b, hFG p (by have := a.low; omega)]; exact h3.2⟩⟩
theorem ShortTo.push {n : Nat} {J : Nat → Nat → Prop} {F : Nat → Nat} {s : Nat → Nat} {t j : Nat} (h : ShortTo n J F s t) (hn : NextAt n J F (s t) j) : ShortTo n J F (fun i => if i ≤ t then s i else j) (t + 1) where
  zero := by simp only [Nat.zero_le, if_true]; exact h.zero
  few := fun i hi => by
    by_cases e : i ≤ t
    · simp only [e, if_true]; exact h.few i e
    · obtain rfl : i = t + 1 := by omega
      simp only [e, if_false]
      have := h.few t (Nat.le_refl _)
      have := hn.few
      omega
  low := fun i hi => by
    by_cases e : i ≤ t
    · simp only [e, if_true]; exact h.low i e
    · simp only [e, if_false]; exact hn.low
  next := fun i hi => by
    by_cases e : i < t
    · have h1 : i ≤ t := by omega
      have h2 : i + 1 ≤ t := by omega
      simp only [h1, h2, if_true]; exact h.next i e
    · obtain rfl : i = t := by omega
      have h2 : ¬ (i + 1 ≤ i) := by omega
      simp only [Nat.le_refl, if_true, h2, if_false]; exact hn
theorem ShortTo.one {n : Nat} {J : Nat → Nat → Prop} {F : Nat → Nat} (hn : 0 < n) : ShortTo n J F (fun _ => 0) 0 :=
  ⟨rfl, fun i hi => by omega, fun _ _ => hn, fun i hi => by omega⟩
theorem skips_one {A B : Nat → Int} {lim : Int} (i : Nat) : SkipsAt A B lim i (i + 1) :=
  ⟨i, Nat.le_refl _, by omega, fun p h1 h2 => by omega, fun p h1 h2 => by omega⟩
theorem skips_mono {A B : Nat → Int} {lim lim' : Int} (h : lim ≤ lim') {i j : Nat} : SkipsAt A B lim i j → SkipsAt A B lim' i j := by
  rintro ⟨k, h1, h2, h3, h4⟩
  exact ⟨k, h1, h2, fun p a b => Int.le_trans (h3 p a b) h, fun p a b => Int.le_trans (h4 p a b) h⟩
end Go.Proofs.Ytomnjcjipdnnfab
