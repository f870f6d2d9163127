/-
  What two words have in common: the first of the longest ones. No program is named here.
-/
import Derived.Test.YtjcgplocifmolaaWb
namespace Go.Proofs.Ytjcgplocifmolaa
open Go.Lib

/-- y is longer than x, or as long and less -/
def bt (y x : Wd) : Bool := decide (x.length < y.length) || (decide (y.length = x.length) && decide (y < x))
def pick (x y : Wd) : Wd := if bt y x then y else x
theorem bt_irrefl (x : Wd) : bt x x = false := by
  simp only [bt, Nat.lt_irrefl, decide_false, Bool.false_or, decide_true, Bool.true_and, decide_eq_false_iff_not]; exact wd_irrefl x
theorem bt_no {u v : Wd} : bt u v = false ↔ u.length < v.length ∨ (u.length = v.length ∧ (v < u ∨ v = u)) := by
  simp only [bt, Bool.or_eq_false_iff, Bool.and_eq_false_iff, decide_eq_false_iff_not]
  constructor
  · rintro ⟨h1, h2⟩
    by_cases e : u.length = v.length
    · refine .inr ⟨e, ?_⟩
      rcases h2 with h2 | h2
      · exact absurd e h2
      · rcases wd_cmp u v with h3 | h3 | h3
        · exact absurd h3 h2
        · exact .inr h3.symm
        · exact .inl h3
    · exact .inl (by omega)
  · rintro (h | ⟨h1, h2⟩)
    · exact ⟨by omega, .inl (by omega)⟩
    · refine ⟨by omega, .inr fun h3 => ?_⟩
      rcases h2 with h2 | h2
      · exact wd_irrefl _ (wd_trans h2 h3)
      · subst h2; exact wd_irrefl _ h3
theorem bt_trans {u v w : Wd} (h : bt u v = false) (k : bt v w = false) : bt u w = false := by
  rw [bt_no] at *
  rcases h with h | ⟨h1, h2⟩
  · rcases k with k | ⟨k1, k2⟩
    · exact .inl (by omega)
    · exact .inl (by omega)
  · rcases k with k | ⟨k1, k2⟩
    · exact .inl (by omega)
    · refine .inr ⟨by omega, ?_⟩
      rcases h2 with h2 | h2 <;> rcases k2 with k2 | k2
      · exact .inl (wd_trans k2 h2)
      · subst k2; exact .inl h2
      · subst h2; exact .inl k2
      · subst h2; exact .inr k2
theorem bt_asymm {x y : Wd} (h : bt y x = true) : bt x y = false := by
  cases e : bt x y
  · rfl
  · simp only [bt, Bool.or_eq_true, Bool.and_eq_true, decide_eq_true_eq] at h e
    rcases h with h | ⟨h1, h2⟩ <;> rcases e with e | ⟨e1, e2⟩
    · omega
    · omega
    · omega
    · exact absurd (wd_trans h2 e2) (wd_irrefl _)
theorem pick_l (x y : Wd) : bt x (pick x y) = false := by
  unfold pick
  split
  · rename_i h; exact bt_asymm h
  · exact bt_irrefl x
theorem pick_r (x y : Wd) : bt y (pick x y) = false := by
  unfold pick
  split
  · exact bt_irrefl y
  · rename_i h; simpa using h
theorem pick_is (x y : Wd) : pick x y = x ∨ pick x y = y := by
  unfold pick; split
  · exact .inr rfl
  · exact .inl rfl
theorem bt_cons {u v : Wd} (a : UInt8) (h : bt u v = false) : bt (a :: u) (a :: v) = false := by
  rw [bt_no] at *
  rcases h with h | ⟨h1, h2⟩
  · exact .inl (by simpa using h)
  · refine .inr ⟨by simpa using h1, ?_⟩
    rcases h2 with h2 | h2
    · exact .inl (List.cons_lt_cons_iff.2 (.inr ⟨rfl, h2⟩))
    · exact .inr (by rw [h2])
def comRow (a : UInt8) (f : Wd → Wd) : Wd → Wd
  | [] => []
  | b :: t => if a = b then pick (pick (f (b :: t)) (comRow a f t)) (a :: f t) else pick (f (b :: t)) (comRow a f t)
/-- the first of the longest words that both have in common -/
def com : Wd → Wd → Wd
  | [] => fun _ => []
  | a :: s => comRow a (com s)
theorem com_nil (s : Wd) : com s [] = [] := by cases s <;> rfl
theorem com_cons (a b : UInt8) (s t : Wd) : com (a :: s) (b :: t) = if a = b then pick (pick (com s (b :: t)) (com (a :: s) t)) (a :: com s t) else pick (com s (b :: t)) (com (a :: s) t) := rfl
theorem com_sub (s t : Wd) : (com s t).Sublist s ∧ (com s t).Sublist t := by
  induction s generalizing t with
  | nil => exact ⟨List.Sublist.refl _, List.nil_sublist _⟩
  | cons a s ih =>
    induction t with
    | nil => rw [com_nil]; exact ⟨List.nil_sublist _, List.nil_sublist _⟩
    | cons b t it =>
      rw [com_cons]
      have h1 : (pick (com s (b :: t)) (com (a :: s) t)).Sublist (a :: s) ∧ (pick (com s (b :: t)) (com (a :: s) t)).Sublist (b :: t) := by
        rcases pick_is (com s (b :: t)) (com (a :: s) t) with e | e <;> rw [e]
        · exact ⟨(ih (b :: t)).1.cons _, (ih (b :: t)).2⟩
        · exact ⟨it.1, it.2.cons _⟩
      split
      · rename_i hab
        subst hab
        rcases pick_is (pick (com s (a :: t)) (com (a :: s) t)) (a :: com s t) with e | e <;> rw [e]
        · exact h1
        · exact ⟨(ih t).1.cons_cons _, (ih t).2.cons_cons _⟩
      · exact h1
theorem com_best {u s t : Wd} (h1 : u.Sublist s) (h2 : u.Sublist t) : bt u (com s t) = false := by
  induction s generalizing u t with
  | nil => obtain rfl := List.sublist_nil.1 h1; exact bt_irrefl _
  | cons a s ih =>
    induction t generalizing u with
    | nil => obtain rfl := List.sublist_nil.1 h2; rw [com_nil]; exact bt_irrefl _
    | cons b t it =>
      have key : bt (pick (com s (b :: t)) (com (a :: s) t)) (com (a :: s) (b :: t)) = false := by
        rw [com_cons]; split
        · exact pick_l _ _
        · exact bt_irrefl _
      cases h1 with
      | cons _ h => exact bt_trans (bt_trans (ih h h2) (pick_l _ _)) key
      | cons_cons _ h =>
        rename_i u'
        cases h2 with
        | cons _ k => exact bt_trans (bt_trans (it (h.cons_cons a) k) (pick_r _ _)) key
        | cons_cons _ k =>
          have h3 := bt_cons a (ih h k)
          rw [com_cons, if_pos rfl]
          exact bt_trans h3 (pick_r _ _)
theorem bt_len {u v : Wd} (h : bt u v = false) : u.length ≤ v.length := by
  rw [bt_no] at h; omega
theorem com_len (s t : Wd) : (com s t).length ≤ s.length ∧ (com s t).length ≤ t.length := ⟨(com_sub s t).1.length_le, (com_sub s t).2.length_le⟩
theorem com_comm (s t : Wd) : (com s t).length = (com t s).length :=
  Nat.le_antisymm (bt_len (com_best (com_sub s t).2 (com_sub s t).1)) (bt_len (com_best (com_sub t s).2 (com_sub t s).1))
theorem com_self (s : Wd) : (com s s).length = s.length :=
  Nat.le_antisymm (com_len s s).1 (bt_len (com_best (List.Sublist.refl s) (List.Sublist.refl s)))
theorem com_full {s t : Wd} (h : s.length + t.length = 2 * (com s t).length) : s = t := by
  have h1 := com_len s t
  have e1 : com s t = s := (com_sub s t).1.eq_of_length (by omega)
  have e2 : com s t = t := (com_sub s t).2.eq_of_length (by omega)
  rw [← e1]; exact e2
/-- what two parts of a word have in common at least -/
theorem sub_meet {y p q : Wd} (hp : p.Sublist y) (hq : q.Sublist y) : ∃ r : Wd, r.Sublist p ∧ r.Sublist q ∧ p.length + q.length ≤ r.length + y.length := by
  induction y generalizing p q with
  | nil =>
    obtain rfl := List.sublist_nil.1 hp
    obtain rfl := List.sublist_nil.1 hq
    exact ⟨[], List.Sublist.refl _, List.Sublist.refl _, by simp⟩
  | cons a y ih =>
    cases hp with
    | cons _ h =>
      cases hq with
      | cons _ k =>
        obtain ⟨r, h1, h2, h3⟩ := ih h k
        exact ⟨r, h1, h2, by simp only [List.length_cons]; omega⟩
      | cons_cons _ k =>
        obtain ⟨r, h1, h2, h3⟩ := ih h k
        exact ⟨r, h1, h2.cons _, by simp only [List.length_cons]; omega⟩
    | cons_cons _ h =>
      cases hq with
      | cons _ k =>
        obtain ⟨r, h1, h2, h3⟩ := ih h k
        exact ⟨r, h1.cons _, h2, by simp only [List.length_cons]; omega⟩
      | cons_cons _ k =>
        obtain ⟨r, h1, h2, h3⟩ := ih h k
        exact ⟨a :: r, h1.cons_cons _, h2.cons_cons _, by simp only [List.length_cons]; omega⟩
theorem com_three (x y z : Wd) : (com x y).length + (com y z).length ≤ (com x z).length + y.length := by
  obtain ⟨r, h1, h2, h3⟩ := sub_meet (com_sub x y).2 (com_sub y z).1
  have h4 := bt_len (com_best (h1.trans (com_sub x y).1) (h2.trans (com_sub y z).2))
  omega
/-- a part with one letter less is the word with a letter taken away -/
theorem sub_del {c s : Wd} (h : c.Sublist s) (hl : c.length + 1 = s.length) : ∃ i, i < s.length ∧ c = del s i := by
  induction s generalizing c with
  | nil => simp at hl
  | cons a s ih =>
    cases h with
    | cons _ h =>
      have e : c = s := h.eq_of_length (by simpa using hl)
      exact ⟨0, by simp, by rw [e]; rfl⟩
    | cons_cons _ h =>
      obtain ⟨i, hi, e⟩ := ih h (by simpa using hl)
      exact ⟨i + 1, by simp [hi], by rw [e]; rfl⟩
theorem del_sub (s : Wd) (i : Nat) : (del s i).Sublist s := by
  induction s generalizing i with
  | nil => simp [del]
  | cons a s ih =>
    cases i with
    | zero => exact (List.Sublist.refl s).cons a
    | succ i => exact (ih i).cons_cons a
/-- different words of one code are 4 apart at least -/
theorem code_apart {s t : Wd} (hs : Bin s) (ht : Bin t) (hl : s.length = t.length) (h : wsum 0 s % (s.length + 1) = wsum 0 t % (s.length + 1)) (hne : s ≠ t) : 4 + 2 * (com s t).length ≤ s.length + t.length := by
  have h1 := com_len s t
  by_cases e1 : (com s t).length = s.length
  · exact absurd (com_full (by omega)) hne
  · by_cases e2 : (com s t).length + 1 = s.length
    · obtain ⟨i, hi, e3⟩ := sub_del (com_sub s t).1 e2
      obtain ⟨j, hj, e4⟩ := sub_del (com_sub s t).2 (by omega)
      have h2 : ins (del s i) i s[i] = s := ins_del hi
      have h3 : ins (del t j) j t[j] = t := ins_del hj
      have ed : del s i = del t j := by rw [← e3, e4]
      have hdl := del_len hi
      have hu := ins_uniq (z := del s i) (i := i) (j := j) (bin_del hs) (get_bin hs hi) (get_bin ht hj) (by omega) (by omega) (by
        rw [h2, ed, h3, ← ed, show (del s i).length + 2 = s.length + 1 by omega]; exact h)
      rw [h2, ed, h3] at hu
      exact absurd hu hne
    · omega
end Go.Proofs.Ytjcgplocifmolaa
