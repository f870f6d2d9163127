/-
  Pairs that are kept as long as no group has more than r horses (plain numbers).
-/
import Derived.Test.YtlnlddnjalfamaaGreatDoorLg
import Derived.Test.YtlnlddnjalfamaaGreatDoorLj
import Derived.Test.YtlnlddnjalfamaaGreatDoorLb
namespace Go.Proofs.YtlnlddnjalfamaaGreatDoor
open Go.RowKit Go.Deep

def lt2 (p q : Nat × Nat) : Prop := p.1 < q.1 ∨ p.1 = q.1 ∧ p.2 < q.2
theorem lt2_irr (p : Nat × Nat) : ¬ lt2 p p := by unfold lt2; omega
theorem lt2_tr {p q r : Nat × Nat} (h : lt2 p q) (k : lt2 q r) : lt2 p r := by unfold lt2 at *; omega
theorem sorted_eq : ∀ (A B : List (Nat × Nat)), A.Pairwise lt2 → B.Pairwise lt2 → (∀ p, p ∈ A ↔ p ∈ B) → A = B := by
  intro A
  induction A with
  | nil =>
    intro B _ _ h
    cases B with
    | nil => rfl
    | cons q B => have := (h q).2 (by simp); simp at this
  | cons p A ih =>
    intro B hA hB h
    cases B with
    | nil => have := (h p).1 (by simp); simp at this
    | cons q B =>
      rw [List.pairwise_cons] at hA hB
      have hpq : p = q := by
        have h1 := (h p).1 (by simp)
        have h2 := (h q).2 (by simp)
        rw [List.mem_cons] at h1 h2
        rcases h1 with h1 | h1
        · exact h1
        · rcases h2 with h2 | h2
          · exact h2.symm
          · exact absurd (lt2_tr (hA.1 q h2) (hB.1 p h1)) (lt2_irr p)
      subst hpq
      congr 1
      refine ih B hA.2 hB.2 fun x => ?_
      have hx := h x
      rw [List.mem_cons, List.mem_cons] at hx
      constructor
      · intro hm
        rcases hx.1 (Or.inr hm) with h1 | h1
        · exact absurd (h1 ▸ hA.1 x hm) (lt2_irr _)
        · exact h1
      · intro hm
        rcases hx.2 (Or.inr hm) with h1 | h1
        · exact absurd (h1 ▸ hB.1 x hm) (lt2_irr _)
        · exact h1
theorem pairsH_mem {H : Nat → Nat} {n : Nat} (hn : n ≤ 14) (hH : ∀ i, i < n → H i < 65536) {p : Nat × Nat} : p ∈ pairsH H n ↔ p.1 < n ∧ p.1 < p.2 ∧ p.2 < 9 ∧ (H p.1).testBit p.2 = true := by
  unfold pairsH
  rw [List.mem_flatMap]
  constructor
  · rintro ⟨i, hi, h⟩
    have hi := List.mem_range.1 hi
    rw [List.mem_map] at h
    obtain ⟨j, hj, rfl⟩ := h
    have hj := List.mem_filter.1 hj
    rw [aft_bit _ _ _ (hH i hi) (by omega), Bool.and_eq_true, decide_eq_true_eq] at hj
    exact ⟨hi, hj.2.2, List.mem_range.1 hj.1, hj.2.1⟩
  · rintro ⟨h1, h2, h3, h4⟩
    refine ⟨p.1, List.mem_range.2 h1, List.mem_map.2 ⟨p.2, List.mem_filter.2 ⟨List.mem_range.2 h3, ?_⟩, rfl⟩⟩
    rw [aft_bit _ _ _ (hH _ h1) (by omega), h4]
    simp [h2]
theorem pairsH_sorted (H : Nat → Nat) (n : Nat) : (pairsH H n).Pairwise lt2 := by
  unfold pairsH
  rw [List.pairwise_flatMap]
  constructor
  · intro i _
    rw [List.pairwise_map]
    have h : (horsesL (aft (H i) i) 9).Pairwise (· < ·) := List.Pairwise.filter _ List.pairwise_lt_range
    exact h.imp fun {a b} hab => Or.inr ⟨rfl, hab⟩
  · refine List.pairwise_lt_range.imp fun {a b} hab x hx y hy => ?_
    rw [List.mem_map] at hx hy
    obtain ⟨_, _, rfl⟩ := hx
    obtain ⟨_, _, rfl⟩ := hy
    exact Or.inl hab
/-- the herd of some pairs -/
def hrdL (L : List (Nat × Nat)) : Nat → Nat := alongH (prA L) (prB L) L.length
def okL (n : Nat) (L : List (Nat × Nat)) : Prop := ∀ p, p ∈ L → p.1 < p.2 ∧ p.2 < n
theorem okL_pairs {n : Nat} {L : List (Nat × Nat)} (h : okL n L) : allN (pairB (n : Int) (prA L) (prB L)) L.length = true := allN_true.2 fun i hi => by
  have h := h (L.getD i (0, 0)) (by
    rw [List.getD_eq_getElem?_getD, List.getElem?_eq_getElem hi]
    exact List.getElem_mem hi)
  unfold pairB prA prB
  simp only [Bool.and_eq_true, decide_eq_true_eq, bne_iff_ne, ne_eq]
  omega
theorem hrdL_bit {n : Nat} {L : List (Nat × Nat)} (h : okL n L) (i j : Nat) : (hrdL L i).testBit j = true ↔ (i, j) ∈ L ∨ (j, i) ∈ L := by
  unfold hrdL
  rw [along_adj (n := (n : Int)) L.length (okL_pairs h) i j]
  exact adjP_mem i j
theorem hrdL_lt {n : Nat} {L : List (Nat × Nat)} (hn : n ≤ 15) (h : okL n L) : ∀ i, i < n → hrdL L i < 65536 := alongH_lt hn (okL_pairs h)
theorem getD_app {L : List (Nat × Nat)} {p : Nat × Nat} {i : Nat} (h : i < L.length) : (L ++ [p]).getD i (0, 0) = L.getD i (0, 0) := by
  rw [List.getD_eq_getElem?_getD, List.getElem?_append_left h, List.getD_eq_getElem?_getD]
theorem along_cong {A B A' B' : Nat → Int} : ∀ k, (∀ i, i < k → A i = A' i ∧ B i = B' i) → alongH A B k = alongH A' B' k := by
  intro k
  induction k with
  | zero => intro _; rfl
  | succ k ih =>
    intro h
    simp only [alongH]
    rw [ih (fun i hi => h i (by omega)), (h k (by omega)).1, (h k (by omega)).2]
theorem hrdL_snoc (L : List (Nat × Nat)) (p : Nat × Nat) : hrdL (L ++ [p]) = joinH (hrdL L) p.1 p.2 := by
  unfold hrdL
  rw [List.length_append, List.length_singleton]
  simp only [alongH]
  have e : (L ++ [p]).getD L.length (0, 0) = p := by simp [List.getD]
  rw [along_cong (A' := prA L) (B' := prB L) L.length (fun i hi => by simp only [prA, prB, getD_app hi]; exact ⟨trivial, trivial⟩)]
  simp only [prA, prB, e, Int.toNat_natCast]
/-- how many horses the greatest group has -/
def gsz (n : Nat) (L : List (Nat × Nat)) : Nat := size16 (best (hrdL L) n)
theorem gsz_mono {n : Nat} {A B : List (Nat × Nat)} (hn : n ≤ 14) (hA : okL n A) (hB : okL n B) (h : ∀ p, p ∈ A → p ∈ B) : gsz n A ≤ gsz n B := by
  have ha := best_spec (hrdL A) hn
  have hb := (best_spec (hrdL B) hn).2 (best (hrdL A) n) ha.1.1 (fun i j hij hi hj => by
    have := ha.1.2 i j hij hi hj
    rw [hrdL_bit hA] at this
    rw [hrdL_bit hB]
    rcases this with h1 | h1
    · exact Or.inl (h _ h1)
    · exact Or.inr (h _ h1))
  unfold gsz
  omega
theorem gsz_nil {n : Nat} (hn : n ≤ 14) : gsz n [] ≤ 1 := by
  have h := best_spec (hrdL []) hn
  unfold gsz
  rcases Classical.em (best (hrdL []) n = 0) with e | e
  · rw [e]; decide
  · obtain ⟨i, hi, hlow⟩ := low_bit e
    have e2 : best (hrdL []) n = 2 ^ i := Nat.eq_of_testBit_eq fun j => by
      rw [pow_bit]
      by_cases c : i = j
      · subst c; rw [hi]; simp
      · cases ej : (best (hrdL []) n).testBit j with
        | false => simp [c]
        | true =>
          rcases Nat.lt_trichotomy i j with c2 | c2 | c2
          · have := h.1.2 i j c2 hi ej
            simp [hrdL, alongH] at this
          · exact absurd c2 c
          · rw [hlow j c2] at ej; cases ej
    rw [e2, size_pow i (by have := h.1.1 i hi; omega)]
    exact Nat.le_refl _
def stepF (n r : Nat) (out : List (Nat × Nat)) (p : Nat × Nat) : List (Nat × Nat) := if gsz n (out ++ [p]) ≤ r then out ++ [p] else out
/-- the pairs that are kept -/
def frL (n r : Nat) (L : List (Nat × Nat)) : List (Nat × Nat) := L.foldl (stepF n r) []
theorem frL_snoc (n r : Nat) (L : List (Nat × Nat)) (p : Nat × Nat) : frL n r (L ++ [p]) = stepF n r (frL n r L) p := by
  unfold frL
  rw [List.foldl_append]
  rfl
theorem rev_ind {P : List (Nat × Nat) → Prop} (h0 : P []) (hs : ∀ L p, P L → P (L ++ [p])) : ∀ L, P L := by
  have h : ∀ n, ∀ L : List (Nat × Nat), L.length = n → P L := by
    intro n
    induction n with
    | zero =>
      intro L hL
      rw [List.length_eq_zero_iff.1 hL]
      exact h0
    | succ n ih =>
      intro L hL
      have hne : L ≠ [] := fun e => by rw [e] at hL; simp at hL
      rw [← List.dropLast_concat_getLast hne]
      exact hs _ _ (ih _ (by rw [List.length_dropLast, hL]; rfl))
  exact fun L => h L.length L rfl
theorem frL_sub (n r : Nat) : ∀ L, (frL n r L).Sublist L := rev_ind (List.Sublist.refl _) fun L p h => by
  rw [frL_snoc]
  unfold stepF
  split
  · exact h.append (List.Sublist.refl _)
  · exact h.trans (List.sublist_append_left _ _)
theorem frL_small {n r : Nat} (hn : n ≤ 14) (hr : 1 ≤ r) : ∀ L, gsz n (frL n r L) ≤ r := rev_ind (by have := gsz_nil hn; show gsz n [] ≤ r; omega) fun L p h => by
  rw [frL_snoc]
  unfold stepF
  by_cases e : gsz n (frL n r L ++ [p]) ≤ r
  · rw [if_pos e]; exact e
  · rw [if_neg e]; exact h
theorem frL_full {n r : Nat} (hn : n ≤ 14) : ∀ L, okL n L → ∀ p, p ∈ L → p ∈ frL n r L ∨ r < gsz n (frL n r L ++ [p]) := rev_ind (fun _ p h => by simp at h) fun L q ih hok p hp => by
  have hokL : okL n L := fun x hx => hok x (by simp [hx])
  have hq := hok q (by simp)
  have hokF : okL n (frL n r L) := fun x hx => hokL x ((frL_sub n r L).subset hx)
  have hokA : ∀ x, x.1 < x.2 ∧ x.2 < n → okL n (frL n r L ++ [x]) := fun x hx y hy => by
    rw [List.mem_append] at hy
    rcases hy with hy | hy
    · exact hokF y hy
    · simp at hy; subst hy; exact hx
  rw [frL_snoc]
  unfold stepF
  rw [List.mem_append] at hp
  by_cases e : gsz n (frL n r L ++ [q]) ≤ r
  · rw [if_pos e]
    rcases hp with hp | hp
    · rcases ih hokL p hp with h | h
      · exact Or.inl (by simp [h])
      · right
        have hpp := hokL p hp
        refine Nat.lt_of_lt_of_le h (gsz_mono hn (hokA p hpp) (fun y hy => ?_) (fun y hy => ?_))
        · rw [List.mem_append] at hy
          rcases hy with hy | hy
          · exact hokA q hq y hy
          · simp at hy; subst hy; exact hpp
        · rw [List.mem_append] at hy ⊢
          rcases hy with hy | hy
          · exact Or.inl (by simp [hy])
          · exact Or.inr hy
    · simp at hp
      subst hp
      exact Or.inl (by simp)
  · rw [if_neg e]
    rcases hp with hp | hp
    · exact ih hokL p hp
    · simp at hp
      subst hp
      exact Or.inr (by omega)
/-- the pairs of the herd of some pairs in their order are these pairs -/
theorem pairs_hrd {n : Nat} {L : List (Nat × Nat)} (hn : n ≤ 9) (h : okL n L) (hs : L.Pairwise lt2) : pairsH (hrdL L) n = L := by
  refine sorted_eq _ _ (pairsH_sorted _ _) hs fun p => ?_
  rw [pairsH_mem (by omega) (hrdL_lt (by omega) h), hrdL_bit h]
  constructor
  · rintro ⟨h1, h2, h3, h4 | h4⟩
    · exact h4
    · have := h _ h4
      simp at this
      omega
  · intro hp
    have := h p hp
    exact ⟨by omega, this.1, by omega, Or.inl hp⟩
theorem pairsH_ok {H : Nat → Nat} {n : Nat} (hn : n ≤ 14) (hH : ∀ i, i < n → H i < 65536) (hb : ∀ i j, i < n → (H i).testBit j = true → j < n) : okL n (pairsH H n) := fun p hp => by
  rw [pairsH_mem hn hH] at hp
  exact ⟨hp.2.1, hb _ _ hp.1 hp.2.2.2⟩
/-- a pair that is joined and parted again -/
theorem part_join {K : Nat → Nat} {a b n : Nat} (hn : n ≤ 14) (hab : a ≠ b) (ha : a < n) (hb : b < n) (hK : ∀ i, i < n → K i < 65536) (h1 : (K a).testBit b = false) (h2 : (K b).testBit a = false) : ∀ i, i < n → partH (joinH K a b) a b i = K i := by
  intro i hi
  have hj := joinH_lt (a := a) (b := b) hK ha hb (by omega)
  unfold partH
  by_cases e : i = b
  · subst e
    rw [if_pos rfl]
    refine Nat.eq_of_testBit_eq fun j => ?_
    rw [bsub_bit _ _ _ (hj i hi) (pow16 (by omega)), pow_bit]
    unfold joinH
    rw [if_pos rfl, Nat.testBit_or, pow_bit]
    by_cases e2 : a = j
    · subst e2; simp [h2]
    · simp [e2]
  · rw [if_neg e]
    by_cases e2 : i = a
    · subst e2
      rw [if_pos rfl]
      refine Nat.eq_of_testBit_eq fun j => ?_
      rw [bsub_bit _ _ _ (hj i hi) (pow16 (by omega)), pow_bit]
      unfold joinH
      rw [if_neg hab, if_pos rfl, Nat.testBit_or, pow_bit]
      by_cases e3 : b = j
      · subst e3; simp [h1]
      · simp [e3]
    · rw [if_neg e2]
      unfold joinH
      rw [if_neg e, if_neg e2]
end Go.Proofs.YtlnlddnjalfamaaGreatDoor
