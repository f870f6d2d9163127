/-
  The law's signed: the signed sum over some horses.
-/
import Derived.Test.YtlnlddnjalfamaaGreatDoorLa
import Derived.Test.YtlnlddnjalfamaaGreatDoorKx
import Derived.Test.YtlnlddnjalfamaaGreatDoorKa
import Derived.BigQuiet
import Derived.Shelf.GgClosure.Gives
namespace Go.Proofs.YtlnlddnjalfamaaGreatDoor
open Go.RowKit Go.Deep Go.Shelf

theorem adjP_mem {L : List (Nat × Nat)} (i j : Nat) : adjP (prA L) (prB L) L.length i j = true ↔ (i, j) ∈ L ∨ (j, i) ∈ L := by
  have h : ∀ k, k ≤ L.length → (adjP (prA L) (prB L) k i j = true ↔ ∃ t, t < k ∧ (L.getD t (0, 0) = (i, j) ∨ L.getD t (0, 0) = (j, i))) := by
    intro k
    induction k with
    | zero => intro _; simp [adjP]
    | succ k ih =>
      intro hk
      show setF (adjP (prA L) (prB L) k) (prA L k).toNat (prB L k).toNat i j = true ↔ _
      unfold setF
      rw [Bool.or_eq_true, Bool.or_eq_true, ih (by omega)]
      simp only [prA, prB, Int.toNat_natCast, Bool.and_eq_true, decide_eq_true_eq]
      constructor
      · rintro ((⟨t, ht, h⟩ | ⟨h1, h2⟩) | ⟨h1, h2⟩)
        · exact ⟨t, by omega, h⟩
        · exact ⟨k, by omega, Or.inl (by rw [h1, h2])⟩
        · exact ⟨k, by omega, Or.inr (by rw [h1, h2])⟩
      · rintro ⟨t, ht, h⟩
        by_cases e : t = k
        · subst e
          rcases h with h | h
          · exact Or.inl (Or.inr (by rw [h]; exact ⟨rfl, rfl⟩))
          · exact Or.inr (by rw [h]; exact ⟨rfl, rfl⟩)
        · exact Or.inl (Or.inl ⟨t, by omega, h⟩)
  rw [h L.length (Nat.le_refl _)]
  have g : ∀ p : Nat × Nat, p ∈ L ↔ ∃ t, t < L.length ∧ L.getD t (0, 0) = p := fun p => by
    rw [List.mem_iff_getElem]
    constructor
    · rintro ⟨t, ht, h⟩
      exact ⟨t, ht, by rw [List.getD_eq_getElem?_getD, List.getElem?_eq_getElem ht]; exact h⟩
    · rintro ⟨t, ht, h⟩
      rw [List.getD_eq_getElem?_getD, List.getElem?_eq_getElem ht] at h
      exact ⟨t, ht, h⟩
  rw [g, g]
  constructor
  · rintro ⟨t, ht, h | h⟩
    · exact Or.inl ⟨t, ht, h⟩
    · exact Or.inr ⟨t, ht, h⟩
  · rintro (⟨t, ht, h⟩ | ⟨t, ht, h⟩)
    · exact ⟨t, ht, Or.inl h⟩
    · exact ⟨t, ht, Or.inr h⟩
/-- the pairs of some horses, numbered anew -/
def indR (F : Nat → Nat → Bool) (l : List Nat) (i m : Nat) : List (Nat × Nat) := ((List.range m).filter fun j => F (l.getD i 0) (l.getD j 0)).map fun j => (i, j)
theorem indR_succ (F : Nat → Nat → Bool) (l : List Nat) (i m : Nat) : indR F l i (m + 1) = indR F l i m ++ (if F (l.getD i 0) (l.getD m 0) then [(i, m)] else []) := by
  unfold indR
  rw [List.range_succ, List.filter_append, List.map_append]
  congr 1
  cases e : F (l.getD i 0) (l.getD m 0) with
  | true => rw [if_pos rfl, List.filter_cons_of_pos (by exact e)]; rfl
  | false => rw [if_neg (by simp), List.filter_cons_of_neg (by rw [e]; simp)]; rfl
theorem indR_len (F : Nat → Nat → Bool) (l : List Nat) (i m : Nat) : (indR F l i m).length ≤ m := by
  unfold indR
  rw [List.length_map]
  have := List.length_filter_le (fun j => F (l.getD i 0) (l.getD j 0)) (List.range m)
  rwa [List.length_range] at this
def indL (F : Nat → Nat → Bool) (l : List Nat) (k : Nat) : List (Nat × Nat) := (List.range k).flatMap fun i => indR F l i i
theorem indL_succ (F : Nat → Nat → Bool) (l : List Nat) (k : Nat) : indL F l (k + 1) = indL F l k ++ indR F l k k := by
  unfold indL
  rw [List.range_succ, List.flatMap_append]
  simp
theorem indL_len (F : Nat → Nat → Bool) (l : List Nat) (k : Nat) : (indL F l k).length ≤ triM k := by
  induction k with
  | zero => exact Nat.le_refl _
  | succ k ih =>
    rw [indL_succ, List.length_append]
    have := indR_len F l k k
    show _ ≤ triM k + k
    omega
theorem indL_mem {F : Nat → Nat → Bool} {l : List Nat} {k : Nat} {p : Nat × Nat} : p ∈ indL F l k ↔ p.2 < p.1 ∧ p.1 < k ∧ F (l.getD p.1 0) (l.getD p.2 0) = true := by
  unfold indL indR
  rw [List.mem_flatMap]
  constructor
  · rintro ⟨i, hi, h⟩
    rw [List.mem_map] at h
    obtain ⟨j, hj, rfl⟩ := h
    rw [List.mem_filter] at hj
    exact ⟨List.mem_range.1 hj.1, List.mem_range.1 hi, hj.2⟩
  · rintro ⟨h1, h2, h3⟩
    refine ⟨p.1, List.mem_range.2 h2, List.mem_map.2 ⟨p.2, List.mem_filter.2 ⟨List.mem_range.2 h1, h3⟩, rfl⟩⟩
theorem ind_good {F : Nat → Nat → Bool} {l : List Nat} {k : Nat} (h1 : 1 ≤ k) (hk : k ≤ 9) : goodH (k : Int) (prA (indL F l k)) (prB (indL F l k)) (indL F l k).length = true ∧ allN (pairB (k : Int) (prA (indL F l k)) (prB (indL F l k))) (indL F l k).length = true := by
  have hl : (indL F l k).length ≤ 36 := Nat.le_trans (indL_len F l k) (triM_le hk)
  have hp : allN (pairB (k : Int) (prA (indL F l k)) (prB (indL F l k))) (indL F l k).length = true := allN_true.2 fun i hi => by
    have h := (indL_mem (F := F) (l := l) (k := k) (p := (indL F l k).getD i (0, 0))).1 (by
      rw [List.getD_eq_getElem?_getD, List.getElem?_eq_getElem hi]
      exact List.getElem_mem hi)
    unfold pairB prA prB
    simp only [Bool.and_eq_true, decide_eq_true_eq, bne_iff_ne, ne_eq]
    omega
  refine ⟨?_, hp⟩
  unfold goodH
  rw [hp]
  simp
  omega
/-- the herd of some horses, numbered anew -/
theorem ind_adj {F : Nat → Nat → Bool} {P : Nat → Bool} {n : Nat} (hs : Sym F n) {i j : Nat} (hi : i < (filt P n).length) (hj : j < (filt P n).length) :
    (alongH (prA (indL F (filt P n) (filt P n).length)) (prB (indL F (filt P n) (filt P n).length)) (indL F (filt P n) (filt P n).length).length i).testBit j = F ((filt P n).getD i 0) ((filt P n).getD j 0) := by
  have hn := filt_len P n
  by_cases h9 : (filt P n).length = 0
  · omega
  · have e : (alongH (prA (indL F (filt P n) (filt P n).length)) (prB (indL F (filt P n) (filt P n).length)) (indL F (filt P n) (filt P n).length).length i).testBit j = adjP (prA (indL F (filt P n) (filt P n).length)) (prB (indL F (filt P n) (filt P n).length)) (indL F (filt P n) (filt P n).length).length i j := by
      refine along_adj (n := ((filt P n).length : Int)) _ ?_ i j
      refine allN_true.2 fun t ht => ?_
      have h := (indL_mem (F := F) (l := filt P n) (k := (filt P n).length) (p := (indL F (filt P n) (filt P n).length).getD t (0, 0))).1 (by
        rw [List.getD_eq_getElem?_getD, List.getElem?_eq_getElem ht]
        exact List.getElem_mem ht)
      unfold pairB prA prB
      simp only [Bool.and_eq_true, decide_eq_true_eq, bne_iff_ne, ne_eq]
      omega
    rw [e, Bool.eq_iff_iff, adjP_mem, indL_mem, indL_mem]
    have gi := filt_get hi
    have gj := filt_get hj
    constructor
    · rintro (⟨_, _, h⟩ | ⟨_, _, h⟩)
      · exact h
      · rw [hs.sym _ _ gi.1 gj.1]; exact h
    · intro h
      rcases Nat.lt_trichotomy j i with c | c | c
      · exact Or.inl ⟨c, hi, h⟩
      · subst c
        rw [hs.irr _ gi.1] at h
        cases h
      · exact Or.inr ⟨c, hj, by rw [hs.sym _ _ gj.1 gi.1]; exact h⟩
/-- the sum that Groups gives -/
theorem ind_sum {F : Nat → Nat → Bool} {P : Nat → Bool} {n : Nat} (hs : Sym F n) (hn : n ≤ 9) (H : Nat → Nat) (hH : ∀ i j, i < (filt P n).length → j < (filt P n).length → (H i).testBit j = F ((filt P n).getD i 0) ((filt P n).getD j 0)) :
    zsum (fun i => ((cntS i (cliq H (filt P n).length (filt P n).length 0 (allH (filt P n).length)) : Nat) : Int) * sg i) (size16 (best H (filt P n).length) + 1) = al F n P := by
  have hl := filt_len P n
  rw [zs_cnt _ _ (fun x hx => by have := cliq_most (by omega) hx; omega)]
  have hs2 : Sym (fun i j => (H i).testBit j) (filt P n).length := ⟨fun i j hi hj => by
    rw [hH i j hi hj, hH j i hj hi]
    exact hs.sym _ _ (filt_get hi).1 (filt_get hj).1, fun i hi => by
    rw [hH i i hi hi]
    exact hs.irr _ (filt_get hi).1⟩
  rw [cliq_all_sg (by omega) hs2]
  have h := al_map F P n (fun _ => true)
  rw [show al F n (fun i => P i && true) = al F n P from al_cong fun i _ => by simp] at h
  rw [← h]
  exact al_congr _ _ _ hH (fun _ _ => rfl)
end Go.Proofs.YtlnlddnjalfamaaGreatDoor
