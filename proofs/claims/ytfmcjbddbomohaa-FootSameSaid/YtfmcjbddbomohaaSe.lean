/-
  Two outlines are at no distance exactly if they are the same once repeated points are taken once. No memory here.
-/
import Derived.Test.YtfmcjbddbomohaaOn
import Derived.Test.YtfmcjbddbomohaaWm
namespace Go.Proofs.Ytfmcjbddbomohaa
open Go.RowKit Go.Deep

theorem dist_zero {x y u v : Int} (h : dist x y u v ≤ 0) : x = u ∧ y = v := by
  unfold dist at h
  have h1 : 0 ≤ (x - u) * (x - u) := by rw [← Int.natAbs_mul_self]; omega
  have h2 : 0 ≤ (y - v) * (y - v) := by rw [← Int.natAbs_mul_self]; omega
  have e1 : (x - u) * (x - u) = 0 := by omega
  have e2 : (y - v) * (y - v) = 0 := by omega
  have f1 : x - u = 0 := by rcases Int.mul_eq_zero.1 e1 with h | h <;> exact h
  have f2 : y - v = 0 := by rcases Int.mul_eq_zero.1 e2 with h | h <;> exact h
  exact ⟨by omega, by omega⟩
/-- one step of a walk whose pairs are all the same points keeps the classes together -/
theorem cls_step {A B U V : Nat → Int} {a b a' b' : Nat} (ha : a' = a ∨ a' = a + 1) (hb : b' = b ∨ b' = b + 1) (h : cls A B a = cls U V b) (e1 : A a = U b ∧ B a = V b) (e2 : A a' = U b' ∧ B a' = V b') : cls A B a' = cls U V b' := by
  rcases ha with rfl | rfl
  · rcases hb with rfl | rfl
    · exact h
    · rw [cls_same (A := U) (B := V) ⟨by rw [← e1.1, ← e2.1], by rw [← e1.2, ← e2.2]⟩]; exact h
  · rcases hb with rfl | rfl
    · rw [cls_same (A := A) (B := B) ⟨by rw [e1.1, e2.1], by rw [e1.2, e2.2]⟩]; exact h
    · by_cases hs : A (a + 1) = A a ∧ B (a + 1) = B a
      · rw [cls_same hs, cls_same (A := U) (B := V) ⟨by rw [← e1.1, ← e2.1]; exact hs.1, by rw [← e1.2, ← e2.2]; exact hs.2⟩]; exact h
      · rw [cls_next hs, cls_next (A := U) (B := V) (fun h' => hs ⟨by rw [e1.1, e2.1]; exact h'.1, by rw [e1.2, e2.2]; exact h'.2⟩), h]
theorem hit {c : Nat → Nat} (T : Nat) (h0 : c 0 = 0) (hs : ∀ t, t < T → c (t + 1) ≤ c t + 1) : ∀ k, k ≤ c T → ∃ t, t ≤ T ∧ c t = k := by
  induction T with
  | zero => intro k hk; exact ⟨0, Nat.le_refl _, by omega⟩
  | succ T ih =>
    intro k hk
    by_cases h : k ≤ c T
    · obtain ⟨t, ht, e⟩ := ih (fun t ht => hs t (by omega)) k h
      exact ⟨t, by omega, e⟩
    · have := hs T (by omega)
      exact ⟨T + 1, Nat.le_refl _, by omega⟩
theorem cls_grow {A B : Nat → Int} (i : Nat) : cls A B (i + 1) ≤ cls A B i + 1 := by
  by_cases h : A (i + 1) = A i ∧ B (i + 1) = B i
  · rw [cls_same h]; omega
  · rw [cls_next h]; omega
theorem cls_up {A B : Nat → Int} {i j : Nat} (h : i ≤ j) : cls A B i ≤ cls A B j := by
  have := cls_mono (A := A) (B := B) (i := i) (j - i)
  rwa [show i + (j - i) = j by omega] at this
theorem same_of_zero {A B U V P Q P' Q' : Nat → Int} {m n L L' : Nat} (hm : 1 ≤ m) (hn : 1 ≤ n) (h1 : OnceOf m A B L P Q) (h2 : OnceOf n U V L' P' Q') (h : fre m A B n U V = 0) : L = L' ∧ ∀ k, k < L → P k = P' k ∧ Q k = Q' k := by
  obtain ⟨T, hT⟩ := ends_exist (rst max (distF A B U V) m n) hm hn
  have hw := pathW hm hn hT
  have hp := pathM hm hn hT
  have h0 : rst max (distF A B U V) m n 0 0 = 0 := h
  rw [h0] at hp
  obtain ⟨a, HA⟩ : ∃ a : Nat → Nat, Hid (a = fun t => (pth m n (rst max (distF A B U V) m n) t).1) := ⟨_, rfl⟩
  obtain ⟨b, HB⟩ : ∃ b : Nat → Nat, Hid (b = fun t => (pth m n (rst max (distF A B U V) m n) t).2) := ⟨_, rfl⟩
  rw [← HA.out, ← HB.out] at hw
  have hd : ∀ t, t ≤ T → A (a t) = U (b t) ∧ B (a t) = V (b t) := fun t ht => by
    rw [HA.out, HB.out]; exact dist_zero (hp t ht)
  have hc : ∀ t, t ≤ T → cls A B (a t) = cls U V (b t) := by
    intro t
    induction t with
    | zero => intro _; rw [hw.a0, hw.b0]; rfl
    | succ t ih =>
      intro ht
      have hs := hw.st t (by omega)
      exact cls_step (by omega) (by omega) (ih (by omega)) (hd t (by omega)) (hd (t + 1) ht)
  have hL : L = L' := by
    have := hc T (Nat.le_refl _)
    have e1 := hw.aT
    have e2 := hw.bT
    rw [h1.1, h2.1, show m - 1 = a T by omega, show n - 1 = b T by omega, this]
  refine ⟨hL, fun k hk => ?_⟩
  have e1 := hw.aT
  obtain ⟨t, ht, e⟩ := hit (c := fun t => cls A B (a t)) T (by show cls A B (a 0) = 0; rw [hw.a0]; rfl) (fun t ht => by
    have hs := hw.st t ht
    show cls A B (a (t + 1)) ≤ cls A B (a t) + 1
    have : a (t + 1) = a t ∨ a (t + 1) = a t + 1 := by omega
    rcases this with e | e
    · rw [e]; omega
    · rw [e]; exact cls_grow _) k (by show k ≤ cls A B (a T); rw [show a T = m - 1 by omega]; have := h1.1; omega)
  have e' : cls A B (a t) = k := e
  have x1 := h1.2 (a t) (hw.am t ht)
  have x2 := h2.2 (b t) (hw.bn t ht)
  have x3 := hd t ht
  rw [e'] at x1
  rw [← hc t ht, e'] at x2
  exact ⟨by rw [x1.1, x2.1]; exact x3.1, by rw [x1.2, x2.2]; exact x3.2⟩
theorem zero_of_same {A B U V P Q P' Q' : Nat → Int} {m n L L' : Nat} (hm : 1 ≤ m) (hn : 1 ≤ n) (h1 : OnceOf m A B L P Q) (h2 : OnceOf n U V L' P' Q') (hL : L = L') (hP : ∀ k, k < L → P k = P' k ∧ Q k = Q' k) : rst max (distF A B U V) m n 0 0 ≤ 0 := by
  have hpt : ∀ i j, i < m → j < n → cls A B i = cls U V j → distF A B U V i j = 0 := by
    intro i j hi hj he
    have x1 := h1.2 i hi
    have x2 := h2.2 j hj
    have hk : cls A B i < L := by
      have := cls_up (A := A) (B := B) (show i ≤ m - 1 by omega)
      have := h1.1
      omega
    have x3 := hP _ hk
    rw [he] at x1 x3
    show dist (A i) (B i) (U j) (V j) = 0
    rw [show A i = U j by rw [← x1.1, ← x2.1]; exact x3.1, show B i = V j by rw [← x1.2, ← x2.2]; exact x3.2]
    exact dist_self _ _
  have key : ∀ d i j, i < m → j < n → cls A B i = cls U V j → (m - 1 - i) + (n - 1 - j) = d → rst max (distF A B U V) m n i j ≤ 0 := by
    intro d
    induction d using Nat.strongRecOn with
    | ind d ih =>
      intro i j hi hj he hd
      have hz := hpt i j hi hj he
      rw [rst_eq hi hj]
      by_cases hl : i + 1 = m ∧ j + 1 = n
      · rw [if_pos hl]; omega
      · rw [if_neg hl]
        have hb : best3 m n (rst max (distF A B U V) m n) i j ≤ 0 := by
          by_cases c1 : i + 1 < m ∧ cls A B (i + 1) = cls A B i
          · have := best3_le (L := rst max (distF A B U V) m n) (i := i) (j := j) c1.1 hj (by omega) (by omega) (by omega) (by omega) (by omega)
            have := ih _ (by omega) (i + 1) j c1.1 hj (by rw [c1.2]; exact he) rfl
            omega
          · by_cases c2 : j + 1 < n ∧ cls U V (j + 1) = cls U V j
            · have := best3_le (L := rst max (distF A B U V) m n) (i := i) (j := j) hi c2.1 (by omega) (by omega) (by omega) (by omega) (by omega)
              have := ih _ (by omega) i (j + 1) hi c2.1 (by rw [c2.2]; exact he) rfl
              omega
            · have g1 := cls_grow (A := A) (B := B) i
              have g2 := cls_grow (A := U) (B := V) j
              have u1 := cls_up (A := A) (B := B) (show i ≤ i + 1 by omega)
              have u2 := cls_up (A := U) (B := V) (show j ≤ j + 1 by omega)
              have l1 := h1.1
              have l2 := h2.1
              have b1 : i + 1 < m := by
                refine Classical.byContradiction fun hx => ?_
                have : i = m - 1 := by omega
                have hj1 : j + 1 < n := by omega
                have := cls_up (A := U) (B := V) (show j + 1 ≤ n - 1 by omega)
                have : ¬ cls U V (j + 1) = cls U V j := fun h => c2 ⟨hj1, h⟩
                subst i
                omega
              have b2 : j + 1 < n := by
                refine Classical.byContradiction fun hx => ?_
                have : j = n - 1 := by omega
                have := cls_up (A := A) (B := B) (show i + 1 ≤ m - 1 by omega)
                have : ¬ cls A B (i + 1) = cls A B i := fun h => c1 ⟨b1, h⟩
                subst j
                omega
              have n1 : ¬ cls A B (i + 1) = cls A B i := fun h => c1 ⟨b1, h⟩
              have n2 : ¬ cls U V (j + 1) = cls U V j := fun h => c2 ⟨b2, h⟩
              have := best3_le (L := rst max (distF A B U V) m n) (i := i) (j := j) b1 b2 (by omega) (by omega) (by omega) (by omega) (by omega)
              have := ih _ (by omega) (i + 1) (j + 1) b1 b2 (by omega) rfl
              omega
        omega
  exact key _ 0 0 hm hn rfl rfl
end Go.Proofs.Ytfmcjbddbomohaa
