/-
  Lists of words in byte order, each word once: what sorting and striking out makes, and what putting in one by one makes, are one. No program is named here.
-/
import Derived.Test.YtjcgplocifmolaaWa
namespace Go.Proofs.Ytjcgplocifmolaa
open Go.Lib

abbrev Wd := List UInt8
theorem wd_trans {a b c : Wd} (h : a < b) (k : b < c) : a < c := List.lt_trans h k
theorem wd_irrefl (a : Wd) : ¬ a < a := List.lt_irrefl a
theorem wd_cmp (a b : Wd) : a < b ∨ a = b ∨ b < a := by
  by_cases h1 : a < b
  · exact .inl h1
  · by_cases h2 : b < a
    · exact .inr (.inr h2)
    · exact .inr (.inl (List.le_antisymm (List.not_lt.1 h2) (List.not_lt.1 h1)))
theorem wd_le {a b : Wd} : a ≤ b ↔ a < b ∨ a = b := by
  constructor
  · intro h
    rcases wd_cmp a b with h1 | h1 | h1
    · exact .inl h1
    · exact .inr h1
    · exact absurd h1 (List.not_lt.2 h)
  · rintro (h | rfl)
    · exact List.le_of_lt h
    · exact List.le_refl _
/-- strictly rising -/
def Up (l : List Wd) : Prop := l.Pairwise (fun x y : Wd => x < y)
theorem up_ext {l m : List Wd} (hl : Up l) (hm : Up m) (h : ∀ x, x ∈ l ↔ x ∈ m) : l = m := by
  induction l generalizing m with
  | nil =>
    cases m with
    | nil => rfl
    | cons b t => exact absurd ((h b).2 (by simp)) (by simp)
  | cons a l ih =>
    cases m with
    | nil => exact absurd ((h a).1 (by simp)) (by simp)
    | cons b m =>
      obtain ⟨h1, h2⟩ := List.pairwise_cons.1 hl
      obtain ⟨h3, h4⟩ := List.pairwise_cons.1 hm
      have e : a = b := by
        rcases List.mem_cons.1 ((h a).1 (by simp)) with e | e
        · exact e
        · rcases List.mem_cons.1 ((h b).2 (by simp)) with e2 | e2
          · exact e2.symm
          · exact absurd (wd_trans (h1 b e2) (h3 a e)) (wd_irrefl a)
      subst e
      rw [ih h2 h4 (fun x => ?_)]
      constructor
      · intro hx
        rcases List.mem_cons.1 ((h x).1 (by simp [hx])) with e | e
        · rw [e] at hx; exact absurd (h1 a hx) (wd_irrefl a)
        · exact e
      · intro hx
        rcases List.mem_cons.1 ((h x).2 (by simp [hx])) with e | e
        · rw [e] at hx; exact absurd (h3 a hx) (wd_irrefl a)
        · exact e
/-- a word put into a rising list -/
def putL : List Wd → Wd → List Wd
  | [], s => [s]
  | x :: t, s => if x < s then x :: putL t s else if x = s then x :: t else s :: x :: t
theorem putL_mem (l : List Wd) (s x : Wd) : x ∈ putL l s ↔ x ∈ l ∨ x = s := by
  induction l with
  | nil => simp [putL]
  | cons y t ih =>
    simp only [putL]
    split
    · rw [List.mem_cons, ih, List.mem_cons]; grind
    · split
      · rename_i h; subst h; simp; grind
      · simp; grind
theorem putL_up {l : List Wd} (h : Up l) (s : Wd) : Up (putL l s) := by
  unfold Up at *
  induction l with
  | nil => simp [putL]
  | cons y t ih =>
    obtain ⟨h1, h2⟩ := List.pairwise_cons.1 h
    simp only [putL]
    split
    · rename_i hy
      refine List.pairwise_cons.2 ⟨fun x hx => ?_, ih h2⟩
      rcases (putL_mem t s x).1 hx with hx | rfl
      · exact h1 x hx
      · exact hy
    · split
      · exact h
      · rename_i hn he
        have hs : s < y := by
          rcases wd_cmp s y with h3 | h3 | h3
          · exact h3
          · exact absurd h3.symm he
          · exact absurd h3 hn
        refine List.pairwise_cons.2 ⟨fun x hx => ?_, h⟩
        rcases List.mem_cons.1 hx with rfl | hx
        · exact hs
        · exact wd_trans hs (h1 x hx)
theorem putL_there {l : List Wd} {s : Wd} {k : Nat} (hk : k < l.length) (hlt : ∀ j (hj : j < l.length), j < k → l[j] < s) (he : l[k] = s) : putL l s = l := by
  induction l generalizing k with
  | nil => simp at hk
  | cons y t ih =>
    simp only [putL]
    cases k with
    | zero =>
      simp only [List.getElem_cons_zero] at he
      subst he
      rw [if_neg (wd_irrefl y), if_pos rfl]
    | succ k =>
      have h0 := hlt 0 (by simp) (by omega)
      simp only [List.getElem_cons_zero] at h0
      rw [if_pos h0, ih (k := k) (by simpa using hk) (fun j hj hjk => by have := hlt (j + 1) (by simpa using hj) (by omega); simpa using this) (by simpa using he)]
theorem putL_new {l : List Wd} {s : Wd} {k : Nat} (hk : k ≤ l.length) (hlt : ∀ j (hj : j < l.length), j < k → l[j] < s) (hn : ∀ (h : k < l.length), ¬ l[k] < s ∧ ¬ l[k] = s) : putL l s = l.take k ++ s :: l.drop k := by
  induction l generalizing k with
  | nil =>
    have : k = 0 := by simpa using hk
    subst this; rfl
  | cons y t ih =>
    simp only [putL]
    cases k with
    | zero =>
      obtain ⟨h1, h2⟩ := hn (by simp)
      simp only [List.getElem_cons_zero] at h1 h2
      rw [if_neg h1, if_neg h2]; rfl
    | succ k =>
      have h0 := hlt 0 (by simp) (by omega)
      simp only [List.getElem_cons_zero] at h0
      rw [if_pos h0, ih (k := k) (by simpa using hk) (fun j hj hjk => by have := hlt (j + 1) (by simpa using hj) (by omega); simpa using this) (fun h => by have := hn (by simpa using h); simpa using this)]
      rfl
/-- all words of a list put in, one by one -/
def puts (l : List Wd) : List Wd := l.foldl putL []
theorem foldl_put (L acc : List Wd) (h : Up acc) : Up (L.foldl putL acc) ∧ ∀ x, x ∈ L.foldl putL acc ↔ x ∈ acc ∨ x ∈ L := by
  induction L generalizing acc with
  | nil => exact ⟨h, fun x => by simp⟩
  | cons y t ih =>
    obtain ⟨h1, h2⟩ := ih (putL acc y) (putL_up h y)
    refine ⟨h1, fun x => ?_⟩
    rw [List.foldl_cons, h2, putL_mem]; simp; grind
theorem puts_up (L : List Wd) : Up (puts L) := (foldl_put L [] List.Pairwise.nil).1
theorem puts_mem (L : List Wd) (x : Wd) : x ∈ puts L ↔ x ∈ L := by
  unfold puts
  rw [(foldl_put L [] List.Pairwise.nil).2 x]; simp
theorem puts_snoc (L : List Wd) (s : Wd) : puts (L ++ [s]) = putL (puts L) s := by
  unfold puts; rw [List.foldl_append]; rfl
/-- sorted, and each once -/
def srt (L : List Wd) : List Wd := compact (L.mergeSort fun x y => decide (x ≤ y))
theorem sorted_ms (L : List Wd) : (L.mergeSort fun x y => decide (x ≤ y)).Pairwise (fun x y : Wd => x ≤ y) := by
  have h := List.pairwise_mergeSort (le := fun x y : Wd => decide (x ≤ y)) (fun a b c h1 h2 => decide_eq_true (List.le_trans (of_decide_eq_true h1) (of_decide_eq_true h2)))
    (fun a b => by
      rcases List.le_total a b with h | h
      · simp [h]
      · simp [h]) L
  exact h.imp fun h => of_decide_eq_true h
theorem compact_up {d : List Wd} (hs : d.Pairwise (fun x y : Wd => x ≤ y)) (m : Nat) (hm : m ≤ d.length) :
    Up (compactUpTo d.toArray m) ∧ ∀ x, x ∈ compactUpTo d.toArray m ↔ ∃ j, ∃ h : j < d.length, j < m ∧ d[j] = x := by
  induction m with
  | zero => exact ⟨List.Pairwise.nil, fun x => by simp [compactUpTo]⟩
  | succ m ih =>
    obtain ⟨h1, h2⟩ := ih (by omega)
    have hmd : m < d.length := by omega
    have eg : d.toArray[m]! = d[m] := by simp [hmd]
    rw [compactUpTo_succ]
    by_cases hk : keeps d.toArray m = true
    · rw [if_pos hk, eg]
      constructor
      · unfold Up at *
        rw [List.pairwise_append]
        refine ⟨h1, by simp, fun x hx y hy => ?_⟩
        obtain rfl : y = d[m] := by simpa using hy
        obtain ⟨j, hj, hjm, rfl⟩ := (h2 x).1 hx
        have hm0 : m ≠ 0 := by omega
        have hne : d[m] ≠ d[m - 1] := by
          simp only [keeps, decide_eq_true_eq] at hk
          rcases hk with hk | hk
          · exact absurd hk hm0
          · rw [eg, show d.toArray[m - 1]! = d[m - 1]'(by omega) by simp [show m - 1 < d.length by omega]] at hk
            exact hk
        have hle : d[j] ≤ d[m - 1] := by
          by_cases e : j = m - 1
          · subst e; exact List.le_refl _
          · exact List.pairwise_iff_getElem.1 hs j (m - 1) hj (by omega) (by omega)
        have hle2 : d[m - 1] ≤ d[m] := List.pairwise_iff_getElem.1 hs (m - 1) m (by omega) hmd (by omega)
        rcases wd_le.1 hle2 with h3 | h3
        · rcases wd_le.1 hle with h4 | h4
          · exact wd_trans h4 h3
          · rw [h4]; exact h3
        · exact absurd h3.symm hne
      · intro x
        rw [List.mem_append, h2 x]
        constructor
        · rintro (⟨j, hj, hjm, e⟩ | h)
          · exact ⟨j, hj, by omega, e⟩
          · exact ⟨m, hmd, by omega, (List.mem_singleton.1 h).symm⟩
        · rintro ⟨j, hj, hjm, e⟩
          by_cases ej : j = m
          · subst ej; exact .inr (by simp [e])
          · exact .inl ⟨j, hj, by omega, e⟩
    · rw [if_neg hk, List.append_nil]
      refine ⟨h1, fun x => ?_⟩
      rw [h2 x]
      constructor
      · rintro ⟨j, hj, hjm, e⟩
        exact ⟨j, hj, by omega, e⟩
      · rintro ⟨j, hj, hjm, e⟩
        by_cases ej : j = m
        · subst ej
          have hn : ¬ (j = 0 ∨ d.toArray[j]! ≠ d.toArray[j - 1]!) := by simpa [keeps] using hk
          have h0 : j ≠ 0 := fun h => hn (.inl h)
          have he : d.toArray[j]! = d.toArray[j - 1]! := Decidable.byContradiction fun h => hn (.inr h)
          rw [eg, show d.toArray[j - 1]! = d[j - 1]'(by omega) by simp [show j - 1 < d.length by omega]] at he
          exact ⟨j - 1, by omega, by omega, by rw [← he]; exact e⟩
        · exact ⟨j, hj, by omega, e⟩
theorem srt_up (L : List Wd) : Up (srt L) := by
  unfold srt compact
  exact (compact_up (sorted_ms L) _ (Nat.le_refl _)).1
theorem srt_mem (L : List Wd) (x : Wd) : x ∈ srt L ↔ x ∈ L := by
  unfold srt compact
  rw [(compact_up (sorted_ms L) _ (Nat.le_refl _)).2 x, ← List.mem_mergeSort (a := x) (l := L) (le := fun x y => decide (x ≤ y)), List.mem_iff_getElem]
  constructor
  · rintro ⟨j, hj, _, e⟩; exact ⟨j, hj, e⟩
  · rintro ⟨j, hj, e⟩; exact ⟨j, hj, hj, e⟩
theorem puts_srt (L : List Wd) : puts L = srt L := up_ext (puts_up L) (srt_up L) fun x => by rw [puts_mem, srt_mem]
theorem up_nodup {l : List Wd} (h : Up l) : l.Nodup := h.imp fun h e => by subst e; exact wd_irrefl _ h
/-- of two lists with the same words, each once, the lengths are the same -/
theorem nodup_le {l m : List Wd} (hl : l.Nodup) (h : ∀ x ∈ l, x ∈ m) : l.length ≤ m.length := by
  induction l generalizing m with
  | nil => simp
  | cons a l ih =>
    obtain ⟨h1, h2⟩ := List.nodup_cons.1 hl
    have ha := h a (by simp)
    have h3 := ih h2 (m := m.erase a) (fun x hx => by
      refine (List.mem_erase_of_ne ?_).2 (h x (by simp [hx]))
      intro e; subst e; exact h1 hx)
    rw [List.length_erase_of_mem ha] at h3
    have := List.length_pos_of_mem ha
    simp only [List.length_cons]
    omega
theorem nodup_len {l m : List Wd} (hl : l.Nodup) (hm : m.Nodup) (h : ∀ x, x ∈ l ↔ x ∈ m) : l.length = m.length :=
  Nat.le_antisymm (nodup_le hl fun x hx => (h x).1 hx) (nodup_le hm fun x hx => (h x).2 hx)
theorem srt_len (L m : List Wd) (hm : m.Nodup) (h : ∀ x, x ∈ L ↔ x ∈ m) : (srt L).length = m.length :=
  nodup_len (up_nodup (srt_up L)) hm fun x => by rw [srt_mem]; exact h x
end Go.Proofs.Ytjcgplocifmolaa
