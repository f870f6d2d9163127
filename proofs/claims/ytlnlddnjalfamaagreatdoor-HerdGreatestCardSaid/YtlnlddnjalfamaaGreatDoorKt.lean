/-
  Turan's bound (plain numbers): if no group of S has more than r horses, S has at most as many pairs as the herd of r parts.
-/
import Derived.Test.YtlnlddnjalfamaaGreatDoorJj
import Derived.Test.YtlnlddnjalfamaaGreatDoorHq
namespace Go.Proofs.YtlnlddnjalfamaaGreatDoor

theorem sumN_mono {f g : Nat → Nat} {n : Nat} (h : ∀ i, i < n → f i ≤ g i) : sumN f n ≤ sumN g n := by
  induction n with
  | zero => exact Nat.le_refl _
  | succ n ih =>
    have := ih (fun i hi => h i (by omega))
    have := h n (by omega)
    simp only [sumN]
    omega
theorem argmax (p : Nat → Bool) (f : Nat → Nat) (n : Nat) : (∀ i, i < n → p i = false) ∨ ∃ v, v < n ∧ p v = true ∧ ∀ i, i < n → p i = true → f i ≤ f v := by
  induction n with
  | zero => exact Or.inl fun i h => absurd h (by omega)
  | succ n ih =>
    rcases ih with h | ⟨v, hv, hp, hm⟩
    · cases e : p n with
      | false =>
        refine Or.inl fun i hi => ?_
        by_cases e2 : i = n
        · rw [e2]; exact e
        · exact h i (by omega)
      | true =>
        refine Or.inr ⟨n, by omega, e, fun i hi hpi => ?_⟩
        by_cases e2 : i = n
        · rw [e2]; exact Nat.le_refl _
        · rw [h i (by omega)] at hpi; cases hpi
    · by_cases e : p n = true ∧ f v < f n
      · refine Or.inr ⟨n, by omega, e.1, fun i hi hpi => ?_⟩
        by_cases e2 : i = n
        · rw [e2]; exact Nat.le_refl _
        · have := hm i (by omega) hpi; omega
      · refine Or.inr ⟨v, by omega, hp, fun i hi hpi => ?_⟩
        by_cases e2 : i = n
        · rw [e2] at hpi ⊢
          have : ¬ f v < f n := fun h => e ⟨hpi, h⟩
          omega
        · exact hm i (by omega) hpi
/-- twice the pairs of S -/
def e2S (F : Nat → Nat → Bool) (S : Nat → Bool) (n : Nat) : Nat := sumN (fun i => sumN (fun j => one (S i && S j && F i j)) n) n
def isClF (F : Nat → Nat → Bool) (t : Nat) : Prop := ∀ i j, i < j → t.testBit i = true → t.testBit j = true → F i j = true
def NoBig (F : Nat → Nat → Bool) (S : Nat → Bool) (n r : Nat) : Prop := ∀ t, (∀ j, t.testBit j = true → j < n ∧ S j = true) → isClF F t → size16 t ≤ r
/-- twice the pairs of the herd of r parts -/
def M2 (s r : Nat) : Nat := s * s - sqN s r r
theorem m2_all : (List.range 10).all (fun s => (List.range 9).all fun r => (List.range 10).all fun d => decide (s ≤ d) || decide (M2 d r + 2 * (d * (s - d)) ≤ M2 s (r + 1)) || (r == 0 && !(d == 0))) = true := by decide +kernel
theorem m2_step {s r d : Nat} (hs : s ≤ 9) (hr : r ≤ 8) (hd : d < s) (h0 : r = 0 → d = 0) : M2 d r + 2 * (d * (s - d)) ≤ M2 s (r + 1) := by
  have h := List.all_eq_true.1 (List.all_eq_true.1 (List.all_eq_true.1 m2_all s (by simp; omega)) r (by simp; omega)) d (by simp; omega)
  simp only [Bool.or_eq_true, decide_eq_true_eq, Bool.and_eq_true, beq_iff_eq, Bool.not_eq_true', beq_eq_false_iff_ne] at h
  rcases h with (h | h) | h
  · omega
  · exact h
  · exact absurd (h0 h.1) h.2
theorem size_pow (v : Nat) (hv : v < 16) : size16 (2 ^ v) = 1 := by
  have h := size_or 0 v (by simp) hv
  rw [Nat.zero_or] at h
  rw [h]
  have : size16 0 = 0 := by decide
  omega
theorem e2_split (F : Nat → Nat → Bool) (S : Nat → Bool) (n v d : Nat) (hs : Sym F n) (hd : ∀ i, i < n → S i = true → sumN (fun j => one (S j && F i j)) n ≤ d) :
    e2S F S n ≤ e2S F (fun j => S j && F v j) n + 2 * (d * cnt (fun j => S j && !F v j) n) := by
  have h1 : e2S F S n = e2S F (fun j => S j && F v j) n + sumN (fun i => sumN (fun j => one ((S i && F v i) && (S j && !F v j) && F i j)) n) n + sumN (fun i => sumN (fun j => one ((S i && !F v i) && S j && F i j)) n) n := by
    unfold e2S
    rw [← sumN_add, ← sumN_add]
    refine sumN_congr fun i _ => ?_
    rw [← sumN_add, ← sumN_add]
    refine sumN_congr fun j _ => ?_
    dsimp only
    cases S i <;> cases S j <;> cases F v i <;> cases F v j <;> cases F i j <;> rfl
  have h2 : sumN (fun i => sumN (fun j => one ((S i && F v i) && (S j && !F v j) && F i j)) n) n ≤ sumN (fun i => sumN (fun j => one ((S i && !F v i) && S j && F i j)) n) n := by
    rw [sumN_swap]
    refine sumN_mono fun j hj => sumN_mono fun i hi => ?_
    rw [hs.sym i j hi hj]
    cases S i <;> cases S j <;> cases F v i <;> cases F v j <;> cases F j i <;> decide
  have h3 : sumN (fun i => sumN (fun j => one ((S i && !F v i) && S j && F i j)) n) n ≤ d * cnt (fun j => S j && !F v j) n := by
    rw [← sum_one, ← sumN_mul]
    refine sumN_mono fun i hi => ?_
    cases e : S i && !F v i with
    | false =>
      refine Nat.le_trans (Nat.le_of_eq (m := 0) ?_) (Nat.zero_le _)
      rw [← sumN_zero n]
      exact sumN_congr fun j _ => by simp [one]
    | true =>
      simp only [Bool.and_eq_true] at e
      have := hd i hi e.1
      simpa [one] using this
  omega
theorem turan_bound (F : Nat → Nat → Bool) (n : Nat) (hs : Sym F n) (hn : n ≤ 9) (r : Nat) : r ≤ 9 → ∀ S, NoBig F S n r → e2S F S n ≤ M2 (cnt S n) r := by
  induction r with
  | zero =>
    intro _ S h
    have h0 : ∀ v, v < n → S v = false := fun v hv => by
      cases e : S v with
      | false => rfl
      | true =>
        have := h (2 ^ v) (fun j hj => by
          rw [pow_bit] at hj
          have : v = j := by simpa using hj
          subst this
          exact ⟨hv, e⟩) (fun i j hij hi hj => by
          rw [pow_bit] at hi hj
          have : v = i := by simpa using hi
          have : v = j := by simpa using hj
          omega)
        rw [size_pow v (by omega)] at this
        omega
    refine Nat.le_trans (Nat.le_of_eq (m := 0) ?_) (Nat.zero_le _)
    unfold e2S
    rw [← sumN_zero n]
    refine sumN_congr fun i hi => ?_
    rw [← sumN_zero n]
    exact sumN_congr fun j _ => by simp [one, h0 i hi]
  | succ r ih =>
    intro hr S h
    rcases argmax S (fun i => sumN (fun j => one (S j && F i j)) n) n with h0 | ⟨v, hv, hSv, hm⟩
    · refine Nat.le_trans (Nat.le_of_eq (m := 0) ?_) (Nat.zero_le _)
      unfold e2S
      rw [← sumN_zero n]
      refine sumN_congr fun i hi => ?_
      rw [← sumN_zero n]
      exact sumN_congr fun j _ => by simp [one, h0 i hi]
    · have hN : NoBig F (fun j => S j && F v j) n r := fun t ht hc => by
        have hvt : t.testBit v = false := by
          cases e : t.testBit v with
          | false => rfl
          | true =>
            have := (ht v e).2
            simp only [Bool.and_eq_true] at this
            rw [hs.irr v hv] at this
            cases this.2
        have h1 := h (t ||| 2 ^ v) (fun j hj => by
          rw [Nat.testBit_or, pow_bit, Bool.or_eq_true] at hj
          rcases hj with hj | hj
          · have := ht j hj
            simp only [Bool.and_eq_true] at this
            exact ⟨this.1, this.2.1⟩
          · have : v = j := by simpa using hj
            subst this
            exact ⟨hv, hSv⟩) (fun i j hij hi hj => by
          rw [Nat.testBit_or, pow_bit, Bool.or_eq_true] at hi hj
          rcases hi with hi | hi
          · rcases hj with hj | hj
            · exact hc i j hij hi hj
            · have : v = j := by simpa using hj
              subst this
              have := ht i hi
              simp only [Bool.and_eq_true] at this
              rw [hs.sym i v this.1 hv]
              exact this.2.2
          · have : v = i := by simpa using hi
            subst this
            rcases hj with hj | hj
            · have := ht j hj
              simp only [Bool.and_eq_true] at this
              exact this.2.2
            · have : v = j := by simpa using hj
              omega)
        rw [size_or t v hvt (by omega)] at h1
        omega
      have h1 := ih (by omega) _ hN
      have hd : sumN (fun j => one (S j && F v j)) n = cnt (fun j => S j && F v j) n := sum_one _ n
      have h2 := e2_split F S n v (cnt (fun j => S j && F v j) n) hs (fun i hi hSi => by rw [← hd]; exact hm i hi hSi)
      have h3 : cnt S n = cnt (fun j => S j && F v j) n + cnt (fun j => S j && !F v j) n := by
        rw [← sum_one, ← sum_one, ← sum_one, ← sumN_add]
        exact sumN_congr fun j _ => by cases S j <;> cases F v j <;> rfl
      have h4 := cnt_le S n
      have h5 : 0 < cnt (fun j => S j && !F v j) n := by
        have := cnt_lt (p := fun _ => false) (q := fun j => S j && !F v j) (k := n) (fun i hi => by cases hi) hv rfl (by simp [hSv, hs.irr v hv])
        omega
      have h6 : r = 0 → cnt (fun j => S j && F v j) n = 0 := fun h0 => by
        subst h0
        rcases Nat.eq_zero_or_pos (cnt (fun j => S j && F v j) n) with e | e
        · exact e
        · exfalso
          have h7 : ∀ j, j < n → (S j && F v j) = false := fun j hj => by
            cases e : S j && F v j with
            | false => rfl
            | true =>
              have := hN (2 ^ j) (fun k hk => by
                rw [pow_bit] at hk
                have : j = k := by simpa using hk
                subst this
                exact ⟨hj, e⟩) (fun a b hab ha hb => by
                rw [pow_bit] at ha hb
                have : j = a := by simpa using ha
                have : j = b := by simpa using hb
                omega)
              rw [size_pow j (by omega)] at this
              omega
          have h8 : cnt (fun j => S j && F v j) n = cnt (fun _ => false) n := cnt_eq _ _ _ h7
          have h9 : ∀ k, cnt (fun _ => false) k = 0 := fun k => by
            induction k with
            | zero => rfl
            | succ k ih => simp [cnt, ih]
          rw [h8, h9] at e
          omega
      have h7 := m2_step (s := cnt S n) (r := r) (d := cnt (fun j => S j && F v j) n) (by omega) (by omega) (by omega) h6
      have h8 : cnt S n - cnt (fun j => S j && F v j) n = cnt (fun j => S j && !F v j) n := by omega
      rw [h8] at h7
      omega
end Go.Proofs.YtlnlddnjalfamaaGreatDoor
