/-
  How many shorter and longer words a word has: its runs; its letters and two more. No program is named here.
-/
import Derived.Test.YtjcgplocifmolaaWb
namespace Go.Proofs.Ytjcgplocifmolaa
open Go.Lib

def dels (l : Wd) : List Wd := (List.range l.length).map (del l)
theorem mem_dels {l x : Wd} : x ∈ dels l ↔ ∃ i, i < l.length ∧ x = del l i := by
  unfold dels
  rw [List.mem_map]
  constructor
  · rintro ⟨i, h, rfl⟩; exact ⟨i, List.mem_range.1 h, rfl⟩
  · rintro ⟨i, h, rfl⟩; exact ⟨i, List.mem_range.2 h, rfl⟩
/-- all letters c < q, as bytes -/
def lets (q : Nat) : List UInt8 := (List.range q).map fun c => UInt8.ofNat (48 + c)
/-- one more letter below q, anywhere -/
def inss (l : Wd) (q : Nat) : List Wd := (List.range (l.length + 1)).flatMap fun i => (lets q).map fun c => ins l i c
theorem mem_inss {l x : Wd} {q : Nat} : x ∈ inss l q ↔ ∃ i, i ≤ l.length ∧ ∃ c ∈ lets q, x = ins l i c := by
  unfold inss
  rw [List.mem_flatMap]
  constructor
  · rintro ⟨i, h, h2⟩
    obtain ⟨c, hc, rfl⟩ := List.mem_map.1 h2
    exact ⟨i, by have := List.mem_range.1 h; omega, c, hc, rfl⟩
  · rintro ⟨i, h, c, hc, rfl⟩
    exact ⟨i, List.mem_range.2 (by omega), List.mem_map.2 ⟨c, hc, rfl⟩⟩
theorem lets_two : lets 2 = [48, 49] := rfl
/-- place i begins a run -/
def runs (l : Wd) (i : Nat) : Bool := decide (i = 0) || !(l[i]? == l[i - 1]?)
def cntR (p : Nat → Bool) : Nat → Nat
  | 0 => 0
  | k + 1 => cntR p k + (if p k then 1 else 0)
theorem cntR_filter (p : Nat → Bool) (n : Nat) : ((List.range n).filter p).length = cntR p n := by
  induction n with
  | zero => rfl
  | succ n ih =>
    rw [List.range_succ, List.filter_append, List.length_append, ih]
    simp only [cntR]
    by_cases h : p n = true
    · simp [h]
    · simp [h]
theorem getq {l : Wd} {i : Nat} (h : i < l.length) : l[i]? = some l[i] := List.getElem?_eq_getElem h
/-- taking away either of two that are the same -/
theorem del_same {l : Wd} {i : Nat} (h : i + 1 < l.length) (e : l[i + 1] = l[i]) : del l (i + 1) = del l i := by
  unfold del
  rw [List.take_succ_eq_append_getElem (by omega), List.append_assoc]
  congr 1
  rw [List.singleton_append, ← e, List.getElem_cons_drop]
theorem del_back {l : Wd} {i : Nat} (hi : i < l.length) : ∃ j, j < l.length ∧ runs l j = true ∧ del l i = del l j := by
  induction i with
  | zero => exact ⟨0, hi, rfl, rfl⟩
  | succ i ih =>
    by_cases hr : runs l (i + 1) = true
    · exact ⟨i + 1, hi, hr, rfl⟩
    · have e : l[i + 1] = l[i] := by
        simp only [runs, Nat.add_one_ne_zero, decide_false, Bool.false_or, Bool.not_eq_true, Bool.not_eq_false', beq_iff_eq, Nat.add_sub_cancel] at hr
        rw [getq hi, getq (show i < l.length by omega)] at hr
        exact Option.some.inj hr
      obtain ⟨j, h1, h2, h3⟩ := ih (by omega)
      exact ⟨j, h1, h2, by rw [del_same hi e, h3]⟩
/-- the letter j of a word without letter i -/
theorem del_get {l : Wd} {i j : Nat} (hi : i < l.length) : (del l i)[j]? = if j < i then l[j]? else l[j + 1]? := by
  unfold del
  by_cases h : j < i
  · rw [if_pos h, List.getElem?_append_left (by simp; omega), List.getElem?_take_of_lt h]
  · rw [if_neg h, List.getElem?_append_right (by simp; omega), List.getElem?_drop]
    congr 1
    simp; omega
theorem del_inj {l : Wd} {i j : Nat} (hij : i < j) (hj : j < l.length) (h : del l i = del l j) : runs l j = false := by
  have h1 : (del l i)[j - 1]? = (del l j)[j - 1]? := by rw [h]
  rw [del_get (by omega), del_get hj, if_neg (by omega), if_pos (by omega), show j - 1 + 1 = j by omega] at h1
  simp [runs, h1, show j ≠ 0 by omega]
def runL (l : Wd) : List Wd := ((List.range l.length).filter (runs l)).map (del l)
theorem runL_nodup (l : Wd) : (runL l).Nodup := by
  unfold runL List.Nodup
  rw [List.pairwise_map]
  have h : ((List.range l.length).filter (runs l)).Pairwise (fun a b => a < b ∧ runs l b = true ∧ b < l.length) := by
    have h1 : ((List.range l.length).filter (runs l)).Pairwise (· < ·) := List.Pairwise.filter _ List.pairwise_lt_range
    refine List.Pairwise.imp_of_mem (fun {a b} ha hb hab => ?_) h1
    obtain ⟨hb1, hb2⟩ := List.mem_filter.1 hb
    exact ⟨hab, hb2, List.mem_range.1 hb1⟩
  exact h.imp fun ⟨h1, h2, h3⟩ e => by rw [del_inj h1 h3 e] at h2; cases h2
theorem shorter_many (l : Wd) : (srt (dels l)).length = cntR (runs l) l.length := by
  rw [srt_len (dels l) (runL l) (runL_nodup l)]
  · unfold runL; rw [List.length_map, cntR_filter]
  · intro x
    rw [mem_dels]
    unfold runL
    rw [List.mem_map]
    constructor
    · rintro ⟨i, hi, rfl⟩
      obtain ⟨j, h1, h2, h3⟩ := del_back hi
      exact ⟨j, List.mem_filter.2 ⟨List.mem_range.2 h1, h2⟩, h3.symm⟩
    · rintro ⟨j, hj, rfl⟩
      exact ⟨j, List.mem_range.1 (List.mem_filter.1 hj).1, rfl⟩
/-- the other letter -/
def flip (c : UInt8) : UInt8 := if c = 48 then 49 else 48
theorem ins_get {l : Wd} {i j : Nat} {c : UInt8} (hi : i ≤ l.length) : (ins l i c)[j]? = if j < i then l[j]? else if j = i then some c else l[j - 1]? := by
  unfold ins
  have hl : (l.take i).length = i := by simp; omega
  by_cases h : j < i
  · rw [if_pos h, List.getElem?_append_left (by omega), List.getElem?_take_of_lt h]
  · rw [if_neg h, List.getElem?_append_right (by omega), hl]
    by_cases h2 : j = i
    · subst h2; simp
    · rw [if_neg h2, show j - i = (j - 1 - i) + 1 by omega, List.getElem?_cons_succ, List.getElem?_drop]
      congr 1; omega
theorem ins_same {l : Wd} {i : Nat} (h : i < l.length) : ins l i l[i] = ins l (i + 1) l[i] := by
  unfold ins
  rw [List.take_succ_eq_append_getElem h, List.append_assoc, List.singleton_append, List.getElem_cons_drop, ← List.getElem_cons_drop (h := h)]
/-- where the letter differs from the one behind it -/
def fresh (l : Wd) (i : Nat) (c : UInt8) : Prop := l[i]? ≠ some c
theorem ins_on (l : Wd) (c : UInt8) (d : Nat) : ∀ i, i + d = l.length → ∃ j, j ≤ l.length ∧ l[j]? ≠ some c ∧ ins l i c = ins l j c := by
  induction d with
  | zero => intro i h; exact ⟨i, by omega, by rw [List.getElem?_eq_none (by omega)]; simp, rfl⟩
  | succ d ih =>
    intro i h
    have hi : i < l.length := by omega
    by_cases e : l[i] = c
    · obtain ⟨j, h1, h2, h3⟩ := ih (i + 1) (by omega)
      refine ⟨j, h1, h2, ?_⟩
      rw [← h3, ← e]
      exact ins_same hi
    · exact ⟨i, by omega, by rw [getq hi]; intro h; exact e (Option.some.inj h), rfl⟩
theorem ins_inj {l : Wd} {i j : Nat} {a b : UInt8} (hij : i < j) (hj : j ≤ l.length) (ha : l[i]? ≠ some a) : ins l i a ≠ ins l j b := by
  intro h
  have h1 : (ins l i a)[i]? = (ins l j b)[i]? := by rw [h]
  rw [ins_get (by omega), ins_get hj, if_neg (by omega), if_pos rfl, if_pos hij] at h1
  exact ha h1.symm
theorem ins_letter {l : Wd} {i : Nat} {a b : UInt8} (hi : i ≤ l.length) (h : ins l i a = ins l i b) : a = b := by
  have h1 : (ins l i a)[i]? = (ins l i b)[i]? := by rw [h]
  rw [ins_get hi, ins_get hi, if_neg (by omega), if_pos rfl, if_neg (by omega), if_pos rfl] at h1
  exact Option.some.inj h1
def insL (l : Wd) : List Wd := ((List.range l.length).map fun i => ins l i (flip (l.getD i 0))) ++ [ins l l.length 48, ins l l.length 49]
theorem flip_ne (c : UInt8) : flip c ≠ c := by
  unfold flip
  split
  · rename_i h; rw [h]; decide
  · rename_i h; exact fun e => h e.symm
theorem insL_nodup (l : Wd) : (insL l).Nodup := by
  unfold insL
  have hg : ∀ i, i < l.length → l[i]? ≠ some (flip (l.getD i 0)) := by
    intro i hi h
    rw [getq hi, List.getD_eq_getElem?_getD, getq hi] at h
    exact flip_ne l[i] (Option.some.inj h).symm
  rw [List.nodup_append]
  refine ⟨?_, ?_, ?_⟩
  · unfold List.Nodup
    rw [List.pairwise_map]
    refine List.Pairwise.imp_of_mem (fun {a b} ha hb hab => ?_) List.pairwise_lt_range
    exact ins_inj hab (by have := List.mem_range.1 hb; omega) (hg a (List.mem_range.1 ha))
  · refine List.nodup_cons.2 ⟨fun h => ?_, by simp⟩
    have := ins_letter (Nat.le_refl _) (List.mem_singleton.1 h)
    exact absurd this (by decide)
  · intro x hx y hy
    obtain ⟨i, hi, rfl⟩ := List.mem_map.1 hx
    have hi2 := List.mem_range.1 hi
    rcases List.mem_cons.1 hy with rfl | hy
    · exact ins_inj hi2 (Nat.le_refl _) (hg i hi2)
    · rw [List.mem_singleton.1 hy]
      exact ins_inj hi2 (Nat.le_refl _) (hg i hi2)
theorem longer_many {l : Wd} (hl : Bin l) : (srt (inss l 2)).length = l.length + 2 := by
  rw [srt_len (inss l 2) (insL l) (insL_nodup l)]
  · simp [insL]
  · intro x
    rw [mem_inss, lets_two]
    unfold insL
    rw [List.mem_append]
    constructor
    · rintro ⟨i, hi, c, hc, rfl⟩
      obtain ⟨j, h1, h2, h3⟩ := ins_on l c (l.length - i) i (by omega)
      rw [h3]
      by_cases hj : j < l.length
      · left
        refine List.mem_map.2 ⟨j, List.mem_range.2 hj, ?_⟩
        congr 1
        rw [getq hj] at h2
        have h4 := get_bin hl hj
        have h5 : c = 48 ∨ c = 49 := by simpa using hc
        rw [List.getD_eq_getElem?_getD, getq hj]
        show flip l[j] = c
        have h6 : l[j] ≠ c := fun e => h2 (by rw [e])
        unfold flip
        rcases h4 with h4 | h4 <;> rcases h5 with h5 | h5 <;> rw [h4] at h6 ⊢ <;> rw [h5] at h6 ⊢ <;> first | rfl | exact absurd rfl h6
      · right
        obtain rfl : j = l.length := by omega
        have h5 : c = 48 ∨ c = 49 := by simpa using hc
        rcases h5 with rfl | rfl <;> simp
    · rintro (h | h)
      · obtain ⟨i, hi, rfl⟩ := List.mem_map.1 h
        have hi2 := List.mem_range.1 hi
        refine ⟨i, by omega, _, ?_, rfl⟩
        unfold flip; split <;> simp
      · rcases List.mem_cons.1 h with rfl | h
        · exact ⟨l.length, Nat.le_refl _, 48, by simp, rfl⟩
        · exact ⟨l.length, Nat.le_refl _, 49, by simp, List.mem_singleton.1 h⟩
end Go.Proofs.Ytjcgplocifmolaa
