/-
  The reference's greatest group in plain numbers: all sets are tried one by one.
-/
import Derived.Test.YtlnlddnjalfamaaGreatDoorLa
import Derived.Test.YtlnlddnjalfamaaGreatDoorLe
namespace Go.Proofs.YtlnlddnjalfamaaGreatDoor
open Go.RowKit Go.Deep

theorem horsesL_filt (s k : Nat) : horsesL s k = filt (fun i => s.testBit i) k := rfl
theorem filt_cnt (P : Nat → Bool) (k : Nat) : (filt P k).length = cnt P k := by
  induction k with
  | zero => rfl
  | succ k ih =>
    rw [filt_succ, List.length_append, ih]
    simp only [cnt]
    split <;> simp
theorem filt_cong {P Q : Nat → Bool} {k : Nat} (h : ∀ i, i < k → P i = Q i) : filt P k = filt Q k := by
  unfold filt
  exact List.filter_congr fun i hi => h i (List.mem_range.1 hi)
theorem filt_from (P : Nat → Bool) (i : Nat) : ∀ n, i ≤ n → ∃ K, filt P n = filt P i ++ K ∧ (∀ x, x ∈ K → i ≤ x ∧ P x = true) ∧ (i < n → P i = true → ∃ K', K = i :: K') := by
  intro n
  induction n with
  | zero =>
    intro h
    have : i = 0 := by omega
    subst this
    exact ⟨[], by simp, by simp, fun h => absurd h (by omega)⟩
  | succ n ih =>
    intro h
    by_cases e : i = n + 1
    · subst e
      exact ⟨[], by simp, by simp, fun h => absurd h (by omega)⟩
    · obtain ⟨K, h1, h2, h3⟩ := ih (by omega)
      refine ⟨K ++ (if P n then [n] else []), by rw [filt_succ, h1, List.append_assoc], fun x hx => ?_, fun _ hp => ?_⟩
      · rw [List.mem_append] at hx
        rcases hx with hx | hx
        · exact h2 x hx
        · cases e2 : P n with
          | true =>
            rw [e2, if_pos rfl] at hx
            simp at hx
            subst hx
            exact ⟨by omega, e2⟩
          | false =>
            rw [e2] at hx
            simp at hx
      · by_cases e3 : i = n
        · subst e3
          have hK : K = [] := by
            have : (filt P i).length = (filt P i ++ K).length := by rw [← h1]
            rw [List.length_append] at this
            exact List.length_eq_zero_iff.1 (by omega)
          rw [hK, hp, if_pos rfl]
          exact ⟨[], rfl⟩
        · obtain ⟨K', rfl⟩ := h3 (by omega) hp
          exact ⟨_, rfl⟩
theorem bef_at (fa fb : Nat → Int) (na nb p : Nat) (heq : ∀ t, t < p → fa t = fb t) (hp : p < min na nb) (hne : fa p ≠ fb p) : before na fa nb fb = decide (fa p < fb p) := by
  unfold before
  have h : ∀ r k, k ≤ p → p < k + r → bef fa fb na nb r k = decide (fa p < fb p) := by
    intro r
    induction r with
    | zero => intro k h1 h2; omega
    | succ r ih =>
      intro k h1 h2
      simp only [bef]
      by_cases e : k = p
      · subst e
        rw [if_neg hne]
      · rw [if_pos (heq k (by omega)), ih (k + 1) (by omega) (by omega)]
  exact h _ 0 (Nat.zero_le _) (by omega)
theorem before_self (n : Nat) (f : Nat → Int) : before n f n f = false := by
  unfold before
  have h : ∀ r k, bef f f n n r k = false := by
    intro r
    induction r with
    | zero => intro k; simp [bef]
    | succ r ih => intro k; simp only [bef]; rw [if_pos trivial, ih]
  exact h _ _
abbrev lI (l : List Nat) : Nat → Int := fun i => ((l.getD i 0 : Nat) : Int)
/-- sets of as many horses: the lists' order is the sets' -/
theorem before_bef {a b n : Nat} (ha : ∀ j, a.testBit j = true → j < n) (hl : (horsesL a n).length = (horsesL b n).length) (h : Bef a b) :
    before (horsesL a n).length (lI (horsesL a n)) (horsesL b n).length (lI (horsesL b n)) = true ∧ before (horsesL b n).length (lI (horsesL b n)) (horsesL a n).length (lI (horsesL a n)) = false := by
  obtain ⟨i, h1, h2, h3⟩ := h
  have hin := ha i h1
  rw [horsesL_filt, horsesL_filt] at hl ⊢
  obtain ⟨Ka, ea, _, ca⟩ := filt_from (fun j => a.testBit j) i n (by omega)
  obtain ⟨Kb, eb, mb, _⟩ := filt_from (fun j => b.testBit j) i n (by omega)
  obtain ⟨Ka', rfl⟩ := ca hin h1
  have hpre : filt (fun j => a.testBit j) i = filt (fun j => b.testBit j) i := filt_cong fun j hj => h3 j hj
  rw [ea, eb, hpre] at hl ⊢
  rw [List.length_append, List.length_append, List.length_cons] at hl
  cases Kb with
  | nil => simp at hl
  | cons y Kb =>
    have hy := mb y (by simp)
    have hyi : i < y := by
      rcases Nat.lt_or_ge i y with h | h
      · exact h
      · have : y = i := by omega
        rw [this] at hy
        rw [h2] at hy
        cases hy.2
    generalize filt (fun j => b.testBit j) i = L at *
    have g1 : ∀ (K : List Nat) (x : Nat), (L ++ x :: K).getD L.length 0 = x := fun K x => by simp [List.getD]
    have g2 : ∀ (K K' : List Nat) (t : Nat), t < L.length → (L ++ K).getD t 0 = (L ++ K').getD t 0 := fun K K' t ht => by
      rw [List.getD_eq_getElem?_getD, List.getD_eq_getElem?_getD, List.getElem?_append_left ht, List.getElem?_append_left ht]
    constructor
    · rw [bef_at _ _ _ _ L.length (fun t ht => by show ((_ : Nat) : Int) = _; rw [g2 _ (y :: Kb) t ht]) (by simp) (by show ((_ : Nat) : Int) ≠ ((_ : Nat) : Int); rw [g1, g1]; omega)]
      rw [decide_eq_true_eq]
      show ((_ : Nat) : Int) < ((_ : Nat) : Int)
      rw [g1, g1]
      omega
    · rw [bef_at _ _ _ _ L.length (fun t ht => by show ((_ : Nat) : Int) = _; rw [g2 _ (i :: Ka') t ht]) (by simp) (by show ((_ : Nat) : Int) ≠ ((_ : Nat) : Int); rw [g1, g1]; omega)]
      rw [decide_eq_false_iff_not]
      show ¬ ((_ : Nat) : Int) < ((_ : Nat) : Int)
      rw [g1, g1]
      omega
theorem bef_total {a b : Nat} (h : a ≠ b) : Bef a b ∨ Bef b a := by
  have hx : ∃ i, a.testBit i ≠ b.testBit i := by
    rcases Classical.em (∃ i, a.testBit i ≠ b.testBit i) with h2 | h2
    · exact h2
    · exact absurd (Nat.eq_of_testBit_eq fun i => by
        rcases Classical.em (a.testBit i = b.testBit i) with h3 | h3
        · exact h3
        · exact absurd ⟨i, h3⟩ h2) h
  obtain ⟨k, hk⟩ := hx
  have hlt : least (fun i => a.testBit i != b.testBit i) (k + 1) < k + 1 := by
    rcases Nat.lt_or_ge (least (fun i => a.testBit i != b.testBit i) (k + 1)) (k + 1) with h1 | h1
    · exact h1
    · have := least_none.1 (Nat.le_antisymm (least_le _ _) h1) k (by omega)
      simp at this
      exact absurd this hk
  obtain ⟨h1, h2⟩ := least_some hlt
  generalize least (fun i => a.testBit i != b.testBit i) (k + 1) = i at *
  have hag : ∀ j, j < i → a.testBit j = b.testBit j := fun j hj => by simpa using h2 j hj
  cases ea : a.testBit i with
  | true =>
    cases eb : b.testBit i with
    | true => rw [ea, eb] at h1; simp at h1
    | false => exact Or.inl ⟨i, ea, eb, hag⟩
  | false =>
    cases eb : b.testBit i with
    | true => exact Or.inr ⟨i, eb, ea, fun j hj => (hag j hj).symm⟩
    | false => rw [ea, eb] at h1; simp at h1
/-- do the horses of a list all get along? -/
def grpB (F : Nat → Nat → Bool) (l : List Nat) (k : Nat) : Bool := allN (fun i => allN (fun j => F (l.getD i 0) (l.getD j 0)) i) k
/-- is this set better than that? -/
def betB (n s m : Nat) : Bool := decide ((horsesL m n).length < (horsesL s n).length) || (decide ((horsesL s n).length = (horsesL m n).length) && before (horsesL s n).length (lI (horsesL s n)) (horsesL m n).length (lI (horsesL m n)))
/-- the best of the sets below k -/
def rbest (F : Nat → Nat → Bool) (n : Nat) : Nat → Nat
  | 0 => 0
  | k + 1 => if grpB F (horsesL k n) (horsesL k n).length && betB n k (rbest F n k) then k else rbest F n k
theorem bit_lt {s n j : Nat} (hs : s < 2 ^ n) (h : s.testBit j = true) : j < n := by
  rcases Nat.lt_or_ge j n with h1 | h1
  · exact h1
  · rw [Nat.testBit_lt_two_pow (Nat.lt_of_lt_of_le hs (Nat.pow_le_pow_right (by omega) h1))] at h; cases h
theorem horses_size {s n : Nat} (hn : n ≤ 16) (hs : s < 2 ^ n) : (horsesL s n).length = size16 s := by
  rw [horsesL_len]
  unfold size16
  obtain ⟨m, hm⟩ : ∃ m, 16 = n + m := ⟨16 - n, by omega⟩
  rw [hm]
  clear hm
  induction m with
  | zero => rfl
  | succ m ih =>
    rw [ih]
    show _ = cnt _ (n + m) + _
    have hf : s.testBit (n + m) = false := by
      cases e : s.testBit (n + m) with
      | false => rfl
      | true => have := bit_lt hs e; omega
    simp [hf]
theorem grpB_cl {H : Nat → Nat} {F : Nat → Nat → Bool} {n s : Nat} (hs : s < 2 ^ n) (hsym : Sym F n) (hF : ∀ i j, i < n → j < n → (H i).testBit j = F i j) : grpB F (horsesL s n) (horsesL s n).length = true ↔ isCl H s := by
  unfold grpB
  rw [allN_true, horsesL_filt]
  constructor
  · intro h i j hij hi hj
    have hi2 : i ∈ filt (fun j => s.testBit j) n := List.mem_filter.2 ⟨List.mem_range.2 (bit_lt hs hi), hi⟩
    have hj2 : j ∈ filt (fun j => s.testBit j) n := List.mem_filter.2 ⟨List.mem_range.2 (bit_lt hs hj), hj⟩
    obtain ⟨a, ha, ea⟩ := List.mem_iff_getElem.1 hi2
    obtain ⟨b, hb, eb⟩ := List.mem_iff_getElem.1 hj2
    have hab : a < b := by
      rcases Nat.lt_trichotomy a b with h1 | h1 | h1
      · exact h1
      · subst h1; rw [ea] at eb; omega
      · have := filt_inj h1 ha
        rw [List.getD_eq_getElem?_getD, List.getD_eq_getElem?_getD, List.getElem?_eq_getElem ha, List.getElem?_eq_getElem hb, ea, eb] at this
        simp at this
        omega
    have h2 := allN_true.1 (h b hb) a hab
    rw [List.getD_eq_getElem?_getD, List.getD_eq_getElem?_getD, List.getElem?_eq_getElem ha, List.getElem?_eq_getElem hb, ea, eb] at h2
    rw [hF i j (bit_lt hs hi) (bit_lt hs hj), hsym.sym i j (bit_lt hs hi) (bit_lt hs hj)]
    exact h2
  · intro h b hb
    rw [allN_true]
    intro a hab
    have ga := filt_get (P := fun j => s.testBit j) (n := n) (a := a) (by omega)
    have gb := filt_get (P := fun j => s.testBit j) (n := n) hb
    have hlt := filt_inj hab hb
    have h1 := h _ _ hlt ga.2 gb.2
    rw [hF _ _ ga.1 gb.1, hsym.sym _ _ ga.1 gb.1] at h1
    exact h1
theorem rbest_best {H : Nat → Nat} {F : Nat → Nat → Bool} {n : Nat} (hn : n ≤ 14) (hsym : Sym F n) (hF : ∀ i j, i < n → j < n → (H i).testBit j = F i j) : rbest F n (2 ^ n) = best H n := by
  have hinv : ∀ k, k ≤ 2 ^ n → (rbest F n k < 2 ^ n ∧ isCl H (rbest F n k)) ∧ ∀ t, t < k → isCl H t → size16 t < size16 (rbest F n k) ∨ size16 t = size16 (rbest F n k) ∧ (t = rbest F n k ∨ Bef (rbest F n k) t) := by
    intro k
    induction k with
    | zero =>
      intro _
      refine ⟨⟨Nat.pow_pos (by omega), fun i j _ hi _ => ?_⟩, fun t ht => absurd ht (by omega)⟩
      simp [rbest] at hi
    | succ k ih =>
      intro hk
      obtain ⟨⟨h1, h2⟩, h3⟩ := ih (by omega)
      have hk2 : k < 2 ^ n := by omega
      have sk := horses_size (show n ≤ 16 by omega) hk2
      have sm := horses_size (show n ≤ 16 by omega) h1
      simp only [rbest]
      by_cases hg : grpB F (horsesL k n) (horsesL k n).length = true
      · have hcl := (grpB_cl hk2 hsym hF).1 hg
        rw [hg, Bool.true_and]
        rcases Nat.lt_trichotomy (size16 k) (size16 (rbest F n k)) with hc | hc | hc
        · have hb : betB n k (rbest F n k) = false := by
            unfold betB
            rw [sk, sm]
            simp
            omega
          rw [hb, if_neg (by simp)]
          refine ⟨⟨h1, h2⟩, fun t ht hct => ?_⟩
          by_cases e : t = k
          · rw [e]; exact Or.inl hc
          · exact h3 t (by omega) hct
        · by_cases e : k = rbest F n k
          · have hb : betB n k (rbest F n k) = false := by
              unfold betB
              rw [← e, before_self]
              simp
            rw [hb, if_neg (by simp)]
            refine ⟨⟨h1, h2⟩, fun t ht hct => ?_⟩
            by_cases e2 : t = k
            · rw [e2]; exact Or.inr ⟨hc, Or.inl e⟩
            · exact h3 t (by omega) hct
          · rcases bef_total e with hB | hB
            · have hb : betB n k (rbest F n k) = true := by
                unfold betB
                rw [(before_bef (n := n) (fun j hj => bit_lt hk2 hj) (by rw [sk, sm, hc]) hB).1, sk, sm]
                simp [hc]
              rw [hb, if_pos rfl]
              refine ⟨⟨hk2, hcl⟩, fun t ht hct => ?_⟩
              by_cases e2 : t = k
              · rw [e2]; exact Or.inr ⟨rfl, Or.inl rfl⟩
              · rcases h3 t (by omega) hct with h4 | ⟨h4, h5 | h5⟩
                · left; omega
                · right
                  rw [h5]
                  exact ⟨hc.symm, Or.inr hB⟩
                · right
                  refine ⟨by omega, Or.inr ?_⟩
                  obtain ⟨i, i1, i2, i3⟩ := hB
                  obtain ⟨j, j1, j2, j3⟩ := h5
                  rcases Nat.lt_trichotomy i j with c | c | c
                  · exact ⟨i, i1, by rw [← j3 i c]; exact i2, fun u hu => (i3 u hu).trans (j3 u (by omega))⟩
                  · subst c; rw [i2] at j1; cases j1
                  · exact ⟨j, by rw [i3 j c]; exact j1, j2, fun u hu => (i3 u (by omega)).trans (j3 u hu)⟩
            · have hb : betB n k (rbest F n k) = false := by
                unfold betB
                rw [(before_bef (n := n) (fun j hj => bit_lt h1 hj) (by rw [sk, sm, hc]) hB).2, sk, sm]
                simp
                omega
              rw [hb, if_neg (by simp)]
              refine ⟨⟨h1, h2⟩, fun t ht hct => ?_⟩
              by_cases e2 : t = k
              · rw [e2]; exact Or.inr ⟨hc, Or.inr hB⟩
              · exact h3 t (by omega) hct
        · have hb : betB n k (rbest F n k) = true := by
            unfold betB
            rw [sk, sm]
            simp [hc]
          rw [hb, if_pos rfl]
          refine ⟨⟨hk2, hcl⟩, fun t ht hct => ?_⟩
          by_cases e2 : t = k
          · rw [e2]; exact Or.inr ⟨rfl, Or.inl rfl⟩
          · rcases h3 t (by omega) hct with h4 | ⟨h4, _⟩
            · left; omega
            · left; omega
      · have hg2 : grpB F (horsesL k n) (horsesL k n).length = false := by simpa using hg
        rw [hg2, Bool.false_and, if_neg (by simp)]
        refine ⟨⟨h1, h2⟩, fun t ht hct => ?_⟩
        by_cases e2 : t = k
        · rw [e2] at hct
          exact absurd ((grpB_cl hk2 hsym hF).2 hct) hg
        · exact h3 t (by omega) hct
  obtain ⟨⟨h1, h2⟩, h3⟩ := hinv (2 ^ n) (Nat.le_refl _)
  have hb := best_spec H hn
  have hb1 : best H n < 2 ^ n := Nat.lt_pow_two_of_testBit _ fun i hi => by
    cases e : (best H n).testBit i with
    | false => rfl
    | true => have := hb.1.1 i e; omega
  have a1 := h3 _ hb1 hb.1.2
  have a2 := hb.2 _ (fun j hj => bit_lt h1 hj) h2
  rcases a1 with a1 | ⟨a1, a3⟩
  · rcases a2 with a2 | ⟨a2, _⟩ <;> omega
  · rcases a2 with a2 | ⟨a2, a4⟩
    · omega
    · rcases a3 with a3 | a3
      · exact a3.symm
      · rcases a4 with a4 | a4
        · exact a4
        · exact (a3.asymm a4).elim
end Go.Proofs.YtlnlddnjalfamaaGreatDoor
