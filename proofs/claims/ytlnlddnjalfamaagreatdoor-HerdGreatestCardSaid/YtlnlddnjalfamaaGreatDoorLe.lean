/-
  HerdColored's numbers: different colours, at least as many as the greatest group has horses, at most one more than the greatest degree.
-/
import Derived.Test.YtlnlddnjalfamaaGreatDoorKb
import Derived.Test.YtlnlddnjalfamaaGreatDoorKu
import Derived.Test.YtlnlddnjalfamaaGreatDoorLa
namespace Go.Proofs.YtlnlddnjalfamaaGreatDoor
open Go.RowKit Go.Deep

theorem nodup_le : ∀ (l k : List Nat), l.Nodup → (∀ x, x ∈ l → x ∈ k) → l.length ≤ k.length := by
  intro l
  induction l with
  | nil => intro k _ _; exact Nat.zero_le _
  | cons x l ih =>
    intro k hn hs
    rw [List.nodup_cons] at hn
    have hx := hs x (by simp)
    have h := ih (k.erase x) hn.2 (fun y hy => by
      have hne : y ≠ x := fun e => hn.1 (by rw [← e]; exact hy)
      exact (List.mem_erase_of_ne hne).2 (hs y (by simp [hy])))
    rw [List.length_erase_of_mem hx] at h
    have : 0 < k.length := List.length_pos_of_mem hx
    simp only [List.length_cons]
    omega
/-- the different ones of the first i numbers -/
def knd (C : Nat → Nat) : Nat → List Nat
  | 0 => []
  | i + 1 => if (knd C i).contains (C i) then knd C i else knd C i ++ [C i]
theorem knd_mem (C : Nat → Nat) (i x : Nat) : x ∈ knd C i ↔ ∃ t, t < i ∧ C t = x := by
  induction i with
  | zero => simp [knd]
  | succ i ih =>
    simp only [knd]
    by_cases e : (knd C i).contains (C i) = true
    · rw [if_pos e, ih]
      constructor
      · rintro ⟨t, ht, h⟩; exact ⟨t, by omega, h⟩
      · rintro ⟨t, ht, h⟩
        by_cases e2 : t = i
        · subst e2
          rw [List.contains_iff_mem, h, ih] at e
          exact e
        · exact ⟨t, by omega, h⟩
    · rw [if_neg e, List.mem_append, ih]
      constructor
      · rintro (⟨t, ht, h⟩ | h)
        · exact ⟨t, by omega, h⟩
        · simp at h
          exact ⟨i, by omega, h.symm⟩
      · rintro ⟨t, ht, h⟩
        by_cases e2 : t = i
        · subst e2
          exact Or.inr (by simp [h])
        · exact Or.inl ⟨t, by omega, h⟩
theorem knd_nodup (C : Nat → Nat) (i : Nat) : (knd C i).Nodup := by
  induction i with
  | zero => exact List.nodup_nil
  | succ i ih =>
    simp only [knd]
    by_cases e : (knd C i).contains (C i) = true
    · rw [if_pos e]; exact ih
    · rw [if_neg e, List.nodup_append]
      refine ⟨ih, by simp, fun a ha b hb => ?_⟩
      simp at hb
      subst hb
      rintro rfl
      exact e (List.contains_iff_mem.2 ha)
theorem knd_len (C : Nat → Nat) (i : Nat) : (knd C i).length ≤ i := by
  induction i with
  | zero => exact Nat.le_refl _
  | succ i ih =>
    simp only [knd]
    split
    · omega
    · simp; omega
theorem anyN_mem (K : List Nat) (x : Nat) : (!allN (fun t => !(lget K t == x)) K.length) = K.contains x := by
  rw [Bool.eq_iff_iff, Bool.not_eq_true', List.contains_iff_mem, ← Bool.not_eq_true, allN_true, List.mem_iff_getElem]
  unfold lget
  constructor
  · intro h
    rcases Classical.em (∃ t, ∃ h : t < K.length, K[t] = x) with h2 | h2
    · exact h2
    · exact absurd (fun t ht => by
        rw [List.getD_eq_getElem?_getD, List.getElem?_eq_getElem ht]
        have : ¬ K[t] = x := fun e => h2 ⟨t, ht, e⟩
        simp [this]) h
  · rintro ⟨t, ht, e⟩ h
    have := h t ht
    rw [List.getD_eq_getElem?_getD, List.getElem?_eq_getElem ht] at this
    simp [e] at this
def mxN (f : Nat → Nat) : Nat → Nat
  | 0 => 0
  | i + 1 => max (mxN f i) (f i)
theorem mxN_le (f : Nat → Nat) (n i : Nat) (h : i < n) : f i ≤ mxN f n := by
  induction n with
  | zero => omega
  | succ n ih =>
    simp only [mxN]
    by_cases e : i = n
    · subst e; omega
    · have := ih (by omega); omega
theorem mxN_bd (f : Nat → Nat) (B n : Nat) (h : ∀ i, i < n → f i ≤ B) : mxN f n ≤ B := by
  induction n with
  | zero => exact Nat.zero_le _
  | succ n ih =>
    have := ih (fun i hi => h i (by omega))
    have := h n (by omega)
    simp only [mxN]
    omega
/-- what a full list of numbers is -/
theorem paintL_spec (H : Nat → Nat) (few f : Nat) : ∀ (l d : List Nat), paintL H few f l = some d → (∀ i, i < l.length → lget d i = lget l i) ∧ ∀ i, l.length ≤ i → i < l.length + f → lget d i < few ∧ diffB H (lget d) i i = true := by
  induction f with
  | zero =>
    intro l d h
    cases h
    exact ⟨fun _ _ => rfl, fun i h1 h2 => absurd h2 (by omega)⟩
  | succ f ih =>
    intro l d h
    unfold paintL at h
    obtain ⟨c, hc, hd⟩ := List.exists_of_findSome?_eq_some h
    by_cases e : diffB H (lget (l ++ [c])) l.length l.length = true
    · rw [if_pos e] at hd
      obtain ⟨h1, h2⟩ := ih _ _ hd
      have hcl : c < few := List.mem_range.1 hc
      have hpre : ∀ i, i ≤ l.length → lget d i = lget (l ++ [c]) i := fun i hi => h1 i (by simp; omega)
      refine ⟨fun i hi => by rw [hpre i (by omega), lget_app, if_pos hi], fun i hi1 hi2 => ?_⟩
      by_cases e2 : i = l.length
      · subst e2
        refine ⟨by rw [hpre _ (Nat.le_refl _), lget_app, if_neg (by omega), if_pos rfl]; exact hcl, ?_⟩
        rw [diffB_congr (D := lget (l ++ [c])) (Nat.le_refl _) hpre]
        exact e
      · exact h2 i (by simp; omega) (by simp; omega)
    · rw [if_neg e] at hd
      cases hd
theorem spare_le (m : Nat) (l : List Nat) (h : l.length ≤ m) : ∃ c, c ≤ m ∧ ¬ c ∈ l := by
  obtain ⟨c, hc, hn⟩ := spare l.length l rfl
  exact ⟨c, by omega, hn⟩
/-- with one number more than any horse has friends there is always a free one -/
theorem paintL_free (H : Nat → Nat) (n D f : Nat) (hD : ∀ h, h < n → cnt (fun i => (H h).testBit i) h ≤ D) : ∀ l : List Nat, l.length + f = n → (paintL H (D + 1) f l).isSome = true := by
  induction f with
  | zero => intro l _; rfl
  | succ f ih =>
    intro l hl
    have hlen : ((filt (fun i => (H l.length).testBit i) l.length).map (lget l)).length ≤ D := by
      rw [List.length_map]
      have e : (filt (fun i => (H l.length).testBit i) l.length).length = cnt (fun i => (H l.length).testBit i) l.length := by
        have : ∀ k, (filt (fun i => (H l.length).testBit i) k).length = cnt (fun i => (H l.length).testBit i) k := fun k => by
          induction k with
          | zero => rfl
          | succ k ih =>
            rw [filt_succ, List.length_append, ih]
            simp only [cnt]
            split <;> simp
        exact this _
      rw [e]
      exact hD l.length (by omega)
    obtain ⟨c, hc, hn⟩ := spare_le D _ hlen
    have hd : diffB H (lget (l ++ [c])) l.length l.length = true := allN_true.2 fun i hi => by
      rw [lget_app, if_pos hi, lget_app, if_neg (by omega), if_pos rfl]
      cases e : (H l.length).testBit i with
      | false => rfl
      | true =>
        have : lget l i ≠ c := fun e2 => hn (by
          rw [← e2]
          exact List.mem_map.2 ⟨i, List.mem_filter.2 ⟨List.mem_range.2 hi, e⟩, rfl⟩)
        simp [this]
    have h1 := ih (l ++ [c]) (by simp; omega)
    unfold paintL
    rw [List.findSome?_isSome_iff]
    exact ⟨c, List.mem_range.2 (by omega), by rw [if_pos hd]; exact h1⟩
theorem cnt_mono (p : Nat → Bool) {a b : Nat} (h : a ≤ b) : cnt p a ≤ cnt p b := by
  obtain ⟨d, rfl⟩ : ∃ d, b = a + d := ⟨b - a, by omega⟩
  clear h
  induction d with
  | zero => exact Nat.le_refl _
  | succ d ih =>
    show cnt p a ≤ cnt p (a + d) + _
    omega
/-- what HerdColored says -/
theorem colored_says {H : Nat → Nat} {F : Nat → Nat → Bool} {n : Nat} {d : List Nat} (hs : Sym F n) (hn : n ≤ 9) (hF : ∀ i j, i < n → j < n → (H i).testBit j = F i j) (hd : ColorsIs H n d) :
    (∀ i j, i < n → j < i → F i j = true → lget d i ≠ lget d j) ∧ size16 (best H n) ≤ (knd (lget d) n).length ∧ (knd (lget d) n).length ≤ mxN (fun i => cnt (F i) n) n + 1 := by
  obtain ⟨few, f1, f2, hp, hm⟩ := hd
  obtain ⟨_, hsp⟩ := paintL_spec H few n [] d hp
  have hprop : ∀ i j, i < n → j < i → F i j = true → lget d i ≠ lget d j := fun i j hi hj hf e => by
    have h := allN_true.1 (hsp i (by simp) (by simpa using hi)).2 j hj
    rw [hF i j hi (by omega), hf, e] at h
    simp at h
  refine ⟨hprop, ?_, ?_⟩
  · have hb := best_spec H (n := n) (by omega)
    rw [← best_sub hn, ← List.length_map (f := lget d)]
    refine nodup_le _ _ ?_ (fun x hx => ?_)
    · have hpw : (horsesL (best H n) 9).Pairwise (fun a b => a < b ∧ (best H n).testBit a = true ∧ (best H n).testBit b = true) := by
        have h1 : (horsesL (best H n) 9).Pairwise (· < ·) := List.Pairwise.filter _ List.pairwise_lt_range
        refine List.Pairwise.imp_of_mem (fun {a b} ha hb h => ?_) h1
        exact ⟨h, (List.mem_filter.1 ha).2, (List.mem_filter.1 hb).2⟩
      rw [List.Nodup, List.pairwise_map]
      refine hpw.imp (fun {a b} ⟨h1, h2, h3⟩ e => ?_)
      have ha := hb.1.1 a h2
      have hbb := hb.1.1 b h3
      have hab := hb.1.2 a b h1 h2 h3
      rw [hF a b ha hbb] at hab
      rw [hs.sym a b ha hbb] at hab
      exact hprop b a hbb h1 hab e.symm
    · rw [List.mem_map] at hx
      obtain ⟨i, hi, rfl⟩ := hx
      rw [knd_mem]
      exact ⟨i, hb.1.1 i (List.mem_filter.1 hi).2, rfl⟩
  · have h1 : (knd (lget d) n).length ≤ few := by
      have := nodup_le (knd (lget d) n) (List.range few) (knd_nodup _ _) (fun x hx => by
        rw [knd_mem] at hx
        obtain ⟨t, ht, rfl⟩ := hx
        exact List.mem_range.2 (hsp t (by simp) (by simpa using ht)).1)
      simpa using this
    have h2 : few ≤ mxN (fun i => cnt (F i) n) n + 1 := by
      rcases Nat.lt_or_ge (mxN (fun i => cnt (F i) n) n + 1) few with h | h
      · exfalso
        have h3 := paintL_free H n (mxN (fun i => cnt (F i) n) n) n (fun h hh => by
          refine Nat.le_trans ?_ (mxN_le (fun i => cnt (F i) n) n h hh)
          refine Nat.le_trans (cnt_mono _ (Nat.le_of_lt hh)) (Nat.le_of_eq ?_)
          exact cnt_eq _ _ _ fun i hi => hF h i hh hi) [] (by simp)
        rw [hm _ (by omega) h] at h3
        cases h3
      · exact h
    omega
end Go.Proofs.YtlnlddnjalfamaaGreatDoor
