/-
  Sets of horses as numbers: their bits. No memory here.
  All groups of a herd, and the first of the greatest ones. No memory here.
-/
import Derived.Test.YtlnlddnjalfamaaGreatDoorRep
import Derived.WalkKit
namespace Go.Proofs.YtlnlddnjalfamaaGreatDoor
open Go.RowKit Go.Deep

theorem of16 (a : Nat) (h : a < 65536) : (BitVec.ofInt 16 (a : Int)).toNat = a := by
  rw [BitVec.toNat_ofInt]
  omega
theorem wr16 (n : Nat) (h : n < 65536) : IntKind.u16.wrap (n : Int) = (n : Int) := by
  show (n : Int) % 2 ^ 16 = n
  omega
theorem and16 (a b : Nat) (ha : a < 65536) (hb : b < 65536) : bits .and .u16 (a : Int) (b : Int) = ((a &&& b : Nat) : Int) := by
  show IntKind.u16.wrap ((BitVec.ofInt 16 (a : Int) &&& BitVec.ofInt 16 (b : Int)).toNat : Int) = _
  rw [BitVec.toNat_and, of16 a ha, of16 b hb]
  exact wr16 _ (Nat.lt_of_le_of_lt Nat.and_le_left ha)
theorem or16_lt {a b : Nat} (ha : a < 65536) (hb : b < 65536) : a ||| b < 65536 := Nat.or_lt_two_pow (n := 16) ha hb
theorem or16 (a b : Nat) (ha : a < 65536) (hb : b < 65536) : bits .or .u16 (a : Int) (b : Int) = ((a ||| b : Nat) : Int) := by
  show IntKind.u16.wrap ((BitVec.ofInt 16 (a : Int) ||| BitVec.ofInt 16 (b : Int)).toNat : Int) = _
  rw [BitVec.toNat_or, of16 a ha, of16 b hb]
  exact wr16 _ (or16_lt ha hb)
/-- a without b -/
def bsub (a b : Nat) : Nat := a &&& (65535 - b)
theorem bsub_le (a b : Nat) : bsub a b ≤ a := Nat.and_le_left
theorem andNot16 (a b : Nat) (ha : a < 65536) (hb : b < 65536) : bits .andNot .u16 (a : Int) (b : Int) = ((bsub a b : Nat) : Int) := by
  show IntKind.u16.wrap ((BitVec.ofInt 16 (a : Int) &&& ~~~BitVec.ofInt 16 (b : Int)).toNat : Int) = _
  rw [BitVec.toNat_and, BitVec.toNat_not, of16 a ha, of16 b hb]
  exact wr16 _ (Nat.lt_of_le_of_lt Nat.and_le_left ha)
theorem bsub_bit (a b i : Nat) (ha : a < 65536) (hb : b < 65536) : (bsub a b).testBit i = (a.testBit i && !b.testBit i) := by
  unfold bsub
  rw [Nat.testBit_and, show 65535 - b = 2 ^ 16 - (b + 1) by omega, Nat.testBit_two_pow_sub_succ (by omega)]
  by_cases hi : i < 16
  · simp [hi]
  · have h2 : 2 ^ 16 ≤ 2 ^ i := Nat.pow_le_pow_right (by decide) (by omega)
    have h1 : a.testBit i = false := Nat.testBit_lt_two_pow (by omega)
    simp [h1]
/-- the horses below n -/
def allH (n : Nat) : Nat := 2 ^ n - 1
theorem allH_bit (n i : Nat) : (allH n).testBit i = decide (i < n) := Nat.testBit_two_pow_sub_one n i
theorem allH_lt {n : Nat} (h : n ≤ 15) : allH n < 65536 := by
  unfold allH
  have : 2 ^ n ≤ 2 ^ 15 := Nat.pow_le_pow_right (by omega) h
  omega
/-- the horses of s with greater numbers -/
def aft (s i : Nat) : Nat := bsub s (allH (i + 1))
theorem aft_le (s i : Nat) : aft s i ≤ s := bsub_le _ _
theorem aft_bit (s i j : Nat) (hs : s < 65536) (hi : i < 15) : (aft s i).testBit j = (s.testBit j && decide (i < j)) := by
  unfold aft
  rw [bsub_bit _ _ _ hs (allH_lt (by omega)), allH_bit]
  by_cases h : i < j
  · simp [h, show ¬ j < i + 1 by omega]
  · simp [h, show j < i + 1 by omega]
theorem bit_div (s i : Nat) : s.testBit i = (s / 2 ^ i % 2 == 1) := by
  rw [Nat.testBit_eq_decide_div_mod_eq]
  by_cases h : s / 2 ^ i % 2 = 1 <;> simp [h]
theorem and1_16 (s : Nat) (hs : s < 65536) : bits .and .u16 (s : Int) 1 = ((s % 2 : Nat) : Int) := by
  rw [show (1 : Int) = ((1 : Nat) : Int) from rfl, and16 s 1 hs (by omega), Nat.and_one_is_mod]
theorem pow16 {i : Nat} (h : i ≤ 15) : (2 : Nat) ^ i < 65536 := by
  have : 2 ^ i ≤ 2 ^ 15 := Nat.pow_le_pow_right (by omega) h
  omega
/-- how many horses a set has -/
def size16 (s : Nat) : Nat := cnt (fun i => s.testBit i) 16
/-- the horses of a set, rising -/
def horsesL (s k : Nat) : List Nat := (List.range k).filter fun i => s.testBit i
theorem horsesL_succ (s k : Nat) : horsesL s (k + 1) = horsesL s k ++ (if s.testBit k then [k] else []) := by
  unfold horsesL
  rw [List.range_succ, List.filter_append]
  congr 1
  by_cases e : s.testBit k <;> simp [e]
theorem horsesL_len (s k : Nat) : (horsesL s k).length = cnt (fun i => s.testBit i) k := by
  induction k with
  | zero => rfl
  | succ k ih =>
    rw [horsesL_succ, List.length_append, ih]
    simp only [cnt]
    split <;> simp
/-- a group and all that it becomes with horses of nx, in the order in which they are yielded -/
def cliq (H : Nat → Nat) (n : Nat) : Nat → Nat → Nat → List Nat
  | 0, g, _ => [g]
  | f + 1, g, nx => g :: (List.range n).flatMap fun i => if nx.testBit i then cliq H n f (g ||| 2 ^ i) (aft nx i &&& H i) else []
/-- the part of them that begins with horses below k -/
def cliqTo (H : Nat → Nat) (n f g nx k : Nat) : List Nat := (List.range k).flatMap fun i => if nx.testBit i then cliq H n f (g ||| 2 ^ i) (aft nx i &&& H i) else []
theorem cliqTo_succ (H : Nat → Nat) (n f g nx k : Nat) : cliqTo H n f g nx (k + 1) = cliqTo H n f g nx k ++ (if nx.testBit k then cliq H n f (g ||| 2 ^ k) (aft nx k &&& H k) else []) := by
  unfold cliqTo
  rw [List.range_succ, List.flatMap_append]
  simp
theorem cliq_succ (H : Nat → Nat) (n f g nx : Nat) : cliq H n (f + 1) g nx = g :: cliqTo H n f g nx n := rfl
end Go.Proofs.YtlnlddnjalfamaaGreatDoor
namespace Go.Proofs.YtlnlddnjalfamaaGreatDoor
open Go.RowKit Go.Deep

/-- horses that all get along -/
def isCl (H : Nat → Nat) (t : Nat) : Prop := ∀ i j, i < j → t.testBit i = true → t.testBit j = true → (H i).testBit j = true
/-- s is g with some of nx that all get along -/
def GrowsTo (H : Nat → Nat) (g nx s : Nat) : Prop := ∃ t, s = g ||| t ∧ (∀ j, t.testBit j = true → nx.testBit j = true) ∧ isCl H t
theorem low_bit {t : Nat} (h : t ≠ 0) : ∃ i, t.testBit i = true ∧ ∀ j, j < i → t.testBit j = false := by
  obtain ⟨i, hi⟩ := Nat.exists_testBit_of_ne_zero h
  induction i using Nat.strongRecOn with
  | _ i ih =>
    by_cases e : ∃ j, j < i ∧ t.testBit j = true
    · obtain ⟨j, h1, h2⟩ := e
      exact ih j h1 h2
    · exact ⟨i, hi, fun j hj => by
        cases h3 : t.testBit j
        · rfl
        · exact absurd ⟨j, hj, h3⟩ e⟩
theorem pow_bit (i j : Nat) : (2 ^ i).testBit j = decide (i = j) := Nat.testBit_two_pow
theorem cliq_mem {H : Nat → Nat} {n : Nat} (hn : n ≤ 14) (f : Nat) : ∀ (g nx s : Nat), nx < 65536 → (∀ j, nx.testBit j = true → n ≤ j + f ∧ j < n) → (s ∈ cliq H n f g nx ↔ GrowsTo H g nx s) := by
  induction f with
  | zero =>
    intro g nx s hx hb
    simp only [cliq, List.mem_singleton]
    constructor
    · rintro rfl
      exact ⟨0, by simp, fun j hj => by simp at hj, fun i j _ hi => by simp at hi⟩
    · rintro ⟨t, rfl, ht, _⟩
      have : t = 0 := Nat.eq_of_testBit_eq fun j => by
        rw [Nat.zero_testBit]
        cases h : t.testBit j
        · rfl
        · have := hb j (ht j h); omega
      rw [this, Nat.or_zero]
  | succ f ih =>
    intro g nx s hx hb
    have hnext : ∀ i, nx.testBit i = true → (∀ j, (aft nx i &&& H i).testBit j = (nx.testBit j && decide (i < j) && (H i).testBit j)) := fun i hi j => by
      rw [Nat.testBit_and, aft_bit _ _ _ hx (by have := hb i hi; omega)]
    have hlt : ∀ i, aft nx i &&& H i < 65536 := fun i => Nat.lt_of_le_of_lt Nat.and_le_left (Nat.lt_of_le_of_lt (aft_le _ _) hx)
    have hsub : ∀ i, nx.testBit i = true → (s ∈ cliq H n f (g ||| 2 ^ i) (aft nx i &&& H i) ↔ GrowsTo H (g ||| 2 ^ i) (aft nx i &&& H i) s) := fun i hi => ih _ _ s (hlt i) (fun j hj => by
      rw [hnext i hi] at hj
      simp only [Bool.and_eq_true, decide_eq_true_eq] at hj
      have h1 := hb i hi
      have h2 := hb j hj.1.1
      omega)
    rw [cliq_succ, List.mem_cons]
    unfold cliqTo
    rw [List.mem_flatMap]
    constructor
    · rintro (rfl | ⟨i, hi, hs⟩)
      · exact ⟨0, by simp, fun j hj => by simp at hj, fun i j _ hi => by simp at hi⟩
      · by_cases hb2 : nx.testBit i = true
        · rw [if_pos hb2, hsub i hb2] at hs
          obtain ⟨t, rfl, ht, hc⟩ := hs
          have ht2 : ∀ j, t.testBit j = true → nx.testBit j = true ∧ i < j ∧ (H i).testBit j = true := fun j hj => by
            have := ht j hj
            rw [hnext i hb2] at this
            simp only [Bool.and_eq_true, decide_eq_true_eq] at this
            exact ⟨this.1.1, this.1.2, this.2⟩
          refine ⟨2 ^ i ||| t, by rw [Nat.or_assoc], fun j hj => ?_, fun a b hab ha hb3 => ?_⟩
          · rw [Nat.testBit_or, pow_bit] at hj
            simp only [Bool.or_eq_true, decide_eq_true_eq] at hj
            rcases hj with rfl | hj
            · exact hb2
            · exact (ht2 j hj).1
          · rw [Nat.testBit_or, pow_bit] at ha hb3
            simp only [Bool.or_eq_true, decide_eq_true_eq] at ha hb3
            rcases ha with rfl | ha
            · rcases hb3 with rfl | hb3
              · omega
              · exact (ht2 b hb3).2.2
            · rcases hb3 with rfl | hb3
              · have := (ht2 a ha).2.1; omega
              · exact hc a b hab ha hb3
        · rw [if_neg hb2] at hs
          simp at hs
    · rintro ⟨t, rfl, ht, hc⟩
      by_cases h0 : t = 0
      · subst h0
        exact Or.inl (by simp)
      · obtain ⟨i, h1, h2⟩ := low_bit h0
        refine Or.inr ⟨i, by simp; exact (hb i (ht i h1)).2, ?_⟩
        have hi := ht i h1
        rw [if_pos hi, hsub i hi]
        have e : t = 2 ^ i ||| (t &&& aft (2 ^ 15 - 1) i) := Nat.eq_of_testBit_eq fun j => by
          rw [Nat.testBit_or, pow_bit, Nat.testBit_and, aft_bit _ _ _ (by decide) (by have := hb i hi; omega), Nat.testBit_two_pow_sub_one]
          by_cases e1 : i = j
          · subst e1; simp [h1]
          · by_cases e2 : j < i
            · simp [h2 j e2, e1]
            · cases h3 : t.testBit j
              · simp [e1]
              · have := (hb j (ht j h3)).2
                simp [show i < j by omega, show j < 15 by omega]
        refine ⟨t &&& aft (2 ^ 15 - 1) i, by rw [Nat.or_assoc, ← e], fun j hj => ?_, fun a b hab ha hb3 => ?_⟩
        · rw [Nat.testBit_and, aft_bit _ _ _ (by decide) (by have := hb i hi; omega)] at hj
          simp only [Bool.and_eq_true, decide_eq_true_eq] at hj
          rw [hnext i hi, ht j hj.1, hc i j hj.2.2 h1 hj.1]
          simp [hj.2.2]
        · rw [Nat.testBit_and] at ha hb3
          simp only [Bool.and_eq_true] at ha hb3
          exact hc a b hab ha.1 hb3.1
/-- at the first horse that only one of them has, it is a that has it -/
def Bef (a b : Nat) : Prop := ∃ i, a.testBit i = true ∧ b.testBit i = false ∧ ∀ j, j < i → a.testBit j = b.testBit j
theorem Bef.asymm {a b : Nat} (h : Bef a b) (k : Bef b a) : False := by
  obtain ⟨i, h1, h2, h3⟩ := h
  obtain ⟨j, k1, k2, k3⟩ := k
  rcases Nat.lt_trichotomy i j with e | e | e
  · rw [k3 i e] at h2; rw [h1] at h2; cases h2
  · subst e; rw [k1] at h2; cases h2
  · rw [h3 j e] at k2; rw [k1] at k2; cases k2
theorem cnt_lt {p q : Nat → Bool} {k : Nat} (h : ∀ i, p i = true → q i = true) {i : Nat} (hi : i < k) (h1 : p i = false) (h2 : q i = true) : cnt p k < cnt q k := by
  have hle : ∀ m, cnt p m ≤ cnt q m := fun m => by
    induction m with
    | zero => exact Nat.le_refl _
    | succ m ih =>
      simp only [cnt]
      by_cases e : p m = true
      · rw [if_pos e, if_pos (h m e)]; omega
      · rw [if_neg e]; split <;> omega
  induction k with
  | zero => omega
  | succ k ih =>
    simp only [cnt]
    by_cases e : i = k
    · subst e
      rw [h1, h2]
      have := hle i
      simp
      omega
    · have := ih (by omega)
      by_cases e2 : p k = true
      · rw [if_pos e2, if_pos (h k e2)]; omega
      · rw [if_neg e2]; split <;> omega
/-- each one is less than all that come later, or before them -/
theorem cliq_order {H : Nat → Nat} {n : Nat} (hn : n ≤ 14) (f : Nat) : ∀ (g nx : Nat), nx < 65536 → (∀ j, nx.testBit j = true → n ≤ j + f ∧ j < n ∧ g.testBit j = false) → (cliq H n f g nx).Pairwise (fun a b => Bef a b ∨ size16 a < size16 b) := by
  induction f with
  | zero => intro g nx _ _; simp [cliq]
  | succ f ih =>
    intro g nx hx hb
    have hnext : ∀ i, nx.testBit i = true → (∀ j, (aft nx i &&& H i).testBit j = (nx.testBit j && decide (i < j) && (H i).testBit j)) := fun i hi j => by
      rw [Nat.testBit_and, aft_bit _ _ _ hx (by have := hb i hi; omega)]
    have hlt : ∀ i, aft nx i &&& H i < 65536 := fun i => Nat.lt_of_le_of_lt Nat.and_le_left (Nat.lt_of_le_of_lt (aft_le _ _) hx)
    have hbn : ∀ i, nx.testBit i = true → ∀ j, (aft nx i &&& H i).testBit j = true → n ≤ j + f ∧ j < n ∧ (g ||| 2 ^ i).testBit j = false := fun i hi j hj => by
      rw [hnext i hi] at hj
      simp only [Bool.and_eq_true, decide_eq_true_eq] at hj
      have h1 := hb i hi
      have h2 := hb j hj.1.1
      refine ⟨by omega, h2.2.1, ?_⟩
      rw [Nat.testBit_or, h2.2.2, pow_bit]
      simp
      omega
    have hel : ∀ i s, nx.testBit i = true → s ∈ cliq H n f (g ||| 2 ^ i) (aft nx i &&& H i) → s.testBit i = true ∧ (∀ j, j < i → s.testBit j = g.testBit j) ∧ ∀ j, g.testBit j = true → s.testBit j = true := fun i s hi hs => by
      rw [cliq_mem hn f _ _ s (hlt i) (fun j hj => ⟨(hbn i hi j hj).1, (hbn i hi j hj).2.1⟩)] at hs
      obtain ⟨t, rfl, ht, _⟩ := hs
      refine ⟨by simp [Nat.testBit_or], fun j hj => ?_, fun j hj => by simp [Nat.testBit_or, hj]⟩
      have h1 : t.testBit j = false := by
        cases h : t.testBit j
        · rfl
        · have := ht j h
          rw [hnext i hi] at this
          simp only [Bool.and_eq_true, decide_eq_true_eq] at this
          omega
      simp [Nat.testBit_or, h1, show ¬ i = j by omega]
    rw [cliq_succ, List.pairwise_cons]
    unfold cliqTo
    constructor
    · intro s hs
      rw [List.mem_flatMap] at hs
      obtain ⟨i, _, hs⟩ := hs
      by_cases hb2 : nx.testBit i = true
      · rw [if_pos hb2] at hs
        have h1 := hel i s hb2 hs
        exact Or.inr (cnt_lt (fun j hj => h1.2.2 j hj) (i := i) (by have := hb i hb2; omega) (hb i hb2).2.2 h1.1)
      · rw [if_neg hb2] at hs
        simp at hs
    · rw [List.pairwise_flatMap]
      constructor
      · intro i _
        by_cases hb2 : nx.testBit i = true
        · rw [if_pos hb2]
          exact ih _ _ (hlt i) (hbn i hb2)
        · rw [if_neg hb2]
          exact List.Pairwise.nil
      · refine List.Pairwise.imp ?_ List.pairwise_lt_range
        intro i k hik a ha b hb3
        by_cases h1 : nx.testBit i = true
        · by_cases h2 : nx.testBit k = true
          · rw [if_pos h1] at ha
            rw [if_pos h2] at hb3
            have e1 := hel i a h1 ha
            have e2 := hel k b h2 hb3
            exact Or.inl ⟨i, e1.1, by rw [e2.2.1 i hik]; exact (hb i h1).2.2, fun j hj => by rw [e1.2.1 j hj, e2.2.1 j (by omega)]⟩
          · rw [if_neg h2] at hb3
            simp at hb3
        · rw [if_neg h1] at ha
          simp at ha
/-- the first of the greatest ones -/
def mostL (l : List Nat) (m : Nat) : Nat := l.foldl (fun m g => if size16 m < size16 g then g else m) m
theorem mostL_app (l k : List Nat) (m : Nat) : mostL (l ++ k) m = mostL k (mostL l m) := List.foldl_append
theorem mostL_spec (l : List Nat) : ∀ m, l.Pairwise (fun a b => Bef a b ∨ size16 a < size16 b) → (∀ t, t ∈ l → Bef m t ∨ size16 m < size16 t ∨ t = m) →
    (mostL l m = m ∨ mostL l m ∈ l) ∧ size16 m ≤ size16 (mostL l m) ∧ (size16 m = size16 (mostL l m) → mostL l m = m) ∧ ∀ t, t ∈ l → size16 t < size16 (mostL l m) ∨ size16 t = size16 (mostL l m) ∧ (t = mostL l m ∨ Bef (mostL l m) t) := by
  induction l with
  | nil => intro m _ _; exact ⟨Or.inl rfl, Nat.le_refl _, fun _ => rfl, fun t ht => by simp at ht⟩
  | cons g l ih =>
    intro m hp hm
    rw [List.pairwise_cons] at hp
    have hstep : mostL (g :: l) m = mostL l (if size16 m < size16 g then g else m) := rfl
    rw [hstep]
    by_cases e : size16 m < size16 g
    · rw [if_pos e]
      obtain ⟨h1, h2, h3, h4⟩ := ih g hp.2 (fun t ht => (hp.1 t ht).elim Or.inl (fun h => Or.inr (Or.inl h)))
      refine ⟨Or.inr (h1.elim (fun h => by rw [h]; simp) (fun h => by simp [h])), by omega, fun h => by omega, fun t ht => ?_⟩
      rcases List.mem_cons.1 ht with rfl | ht
      · rcases Nat.lt_or_ge (size16 t) (size16 (mostL l t)) with h | h
        · exact Or.inl h
        · exact Or.inr ⟨by omega, Or.inl (h3 (by omega)).symm⟩
      · exact h4 t ht
    · rw [if_neg e]
      obtain ⟨h1, h2, h3, h4⟩ := ih m hp.2 (fun t ht => hm t (by simp [ht]))
      refine ⟨h1.elim Or.inl (fun h => Or.inr (by simp [h])), h2, h3, fun t ht => ?_⟩
      rcases List.mem_cons.1 ht with rfl | ht
      · rcases Nat.lt_or_ge (size16 t) (size16 (mostL l m)) with h | h
        · exact Or.inl h
        · have e2 : size16 m = size16 (mostL l m) := by omega
          rw [h3 e2]
          refine Or.inr ⟨by omega, ?_⟩
          rcases hm t (by simp) with h | h | h
          · exact Or.inr h
          · omega
          · exact Or.inl h
      · exact h4 t ht
/-- the group that Group returns -/
def best (H : Nat → Nat) (n : Nat) : Nat := mostL (cliq H n n 0 (allH n)) 0
theorem all_grows {H : Nat → Nat} {n s : Nat} : GrowsTo H 0 (allH n) s ↔ (∀ j, s.testBit j = true → j < n) ∧ isCl H s := by
  unfold GrowsTo
  constructor
  · rintro ⟨t, rfl, h1, h2⟩
    rw [Nat.zero_or]
    exact ⟨fun j hj => by have := h1 j hj; rw [allH_bit] at this; simpa using this, h2⟩
  · rintro ⟨h1, h2⟩
    exact ⟨s, by rw [Nat.zero_or], fun j hj => by rw [allH_bit]; simpa using h1 j hj, h2⟩
theorem cliq_all {H : Nat → Nat} {n s : Nat} (hn : n ≤ 14) : s ∈ cliq H n n 0 (allH n) ↔ (∀ j, s.testBit j = true → j < n) ∧ isCl H s := by
  rw [cliq_mem hn n 0 (allH n) s (allH_lt (by omega)) (fun j hj => by rw [allH_bit] at hj; simp at hj; omega), all_grows]
theorem best_spec (H : Nat → Nat) {n : Nat} (hn : n ≤ 14) : ((∀ j, (best H n).testBit j = true → j < n) ∧ isCl H (best H n)) ∧ ∀ t, (∀ j, t.testBit j = true → j < n) → isCl H t → size16 t < size16 (best H n) ∨ size16 t = size16 (best H n) ∧ (t = best H n ∨ Bef (best H n) t) := by
  have ho := cliq_order (H := H) hn n 0 (allH n) (allH_lt (by omega)) (fun j hj => by rw [allH_bit] at hj; simp at hj; exact ⟨by omega, hj, by simp⟩)
  have h0 : (0 : Nat) ∈ cliq H n n 0 (allH n) := (cliq_all hn).2 ⟨fun j hj => by simp at hj, fun i j _ hi => by simp at hi⟩
  obtain ⟨h1, h2, h3, h4⟩ := mostL_spec (cliq H n n 0 (allH n)) 0 ho (fun t ht => by
    by_cases e : t = 0
    · exact Or.inr (Or.inr e)
    · obtain ⟨i, hi, _⟩ := low_bit e
      exact Or.inr (Or.inl (cnt_lt (fun j hj => by simp at hj) (i := i) (by have := ((cliq_all hn).1 ht).1 i hi; omega) (by simp) hi)))
  refine ⟨?_, fun t ht hc => h4 t ((cliq_all hn).2 ⟨ht, hc⟩)⟩
  rcases h1 with h1 | h1
  · show _ ∧ isCl H (mostL (cliq H n n 0 (allH n)) 0)
    unfold best
    rw [h1]
    exact ⟨fun j hj => by simp at hj, fun i j _ hi => by simp at hi⟩
  · exact (cliq_all hn).1 h1
end Go.Proofs.YtlnlddnjalfamaaGreatDoor
