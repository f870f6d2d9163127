/-
  Decimal digits: two strings with one value are the same; each number above 0 has one.
-/
import Derived.Test.YtomnjcjipdnnfaaNx
namespace Go.Proofs.Ytomnjcjipdnnfaa
open Go.RowKit Go.Deep

theorem fold_ge (l : List UInt8) (hl : DecD l) (a : Int) (ha : 0 ≤ a) : a ≤ l.foldl (fun a b => a * 10 + ((b.toNat : Int) - 48)) a := by
  induction l generalizing a with
  | nil => exact Int.le_refl _
  | cons b l ih =>
    have hb := hl b (List.mem_cons_self ..)
    have := ih (fun c hc => hl c (List.mem_cons_of_mem _ hc)) (a * 10 + ((b.toNat : Int) - 48)) (by omega)
    simp only [List.foldl_cons]
    omega
theorem decV_pos {l : List UInt8} (hl : DecD l) (hne : l ≠ []) (hh : l.head?.map (fun b => b.toNat) ≠ some 48) : 1 ≤ decV l := by
  cases l with
  | nil => exact absurd rfl hne
  | cons b l =>
    have hb := hl b (List.mem_cons_self ..)
    have hb2 : b.toNat ≠ 48 := fun h => hh (by simp [h])
    have := fold_ge l (fun c hc => hl c (List.mem_cons_of_mem _ hc)) ((b.toNat : Int) - 48) (by omega)
    unfold decV
    simp only [List.foldl_cons, Int.zero_mul, Int.zero_add]
    omega
theorem head_snoc (l : List UInt8) (b : UInt8) (h : l ≠ []) : (l ++ [b]).head? = l.head? := by
  cases l with
  | nil => exact absurd rfl h
  | cons c l => rfl
theorem dec_uniq : ∀ (n : Nat) (l r : List UInt8), l.length = n → DecD l → DecD r → l.head?.map (fun b => b.toNat) ≠ some 48 → r.head?.map (fun b => b.toNat) ≠ some 48 → decV l = decV r → l = r := by
  intro n
  induction n with
  | zero =>
    intro l r hn hl hr h1 h2 he
    have e : l = [] := List.length_eq_zero_iff.1 hn
    subst e
    by_cases hre : r = []
    · exact hre.symm
    · have h3 := decV_pos hr hre h2
      have h4 : decV [] = 0 := rfl
      omega
  | succ n ih =>
    intro l r hn hl hr h1 h2 he
    have hle : l ≠ [] := fun h => by rw [h] at hn; simp at hn
    have h3 := decV_pos hl hle h1
    have hre : r ≠ [] := fun h => by rw [h] at he; have h4 : decV [] = 0 := rfl; omega
    obtain ⟨l0, b, rfl⟩ : ∃ l0 b, l = l0 ++ [b] := ⟨l.dropLast, l.getLast hle, (List.dropLast_concat_getLast hle).symm⟩
    obtain ⟨r0, c, rfl⟩ : ∃ l0 b, r = l0 ++ [b] := ⟨r.dropLast, r.getLast hre, (List.dropLast_concat_getLast hre).symm⟩
    rw [decV_snoc, decV_snoc] at he
    have hb := hl b (by simp)
    have hc := hr c (by simp)
    have hbc : b.toNat = c.toNat := by omega
    have hv : decV l0 = decV r0 := by omega
    have hl0 : DecD l0 := fun x hx => hl x (by simp [hx])
    have hr0 : DecD r0 := fun x hx => hr x (by simp [hx])
    have e1 : b = c := UInt8.toNat_inj.1 hbc
    have hh1 : l0.head?.map (fun b => b.toNat) ≠ some 48 := by
      by_cases e : l0 = []
      · subst e; simp
      · rw [← head_snoc l0 b e]; exact h1
    have hh2 : r0.head?.map (fun b => b.toNat) ≠ some 48 := by
      by_cases e : r0 = []
      · subst e; simp
      · rw [← head_snoc r0 c e]; exact h2
    have := ih l0 r0 (by simp at hn; omega) hl0 hr0 hh1 hh2 hv
    rw [this, e1]
theorem DecL.same {l r : List UInt8} {x : Int} (h : DecL l x) (g : DecL r x) : l = r :=
  dec_uniq l.length l r rfl h.1 g.1 h.2.2.1 g.2.2.1 (by rw [h.2.1, g.2.1])
/-- each number above 0 has digits -/
theorem dec_ex : ∀ (k : Nat) (x : Int), 0 < x → x < 10 ^ k → ∃ l, DecD l ∧ decV l = x ∧ l.head?.map (fun b => b.toNat) ≠ some 48 ∧ l.length ≤ k := by
  intro k
  induction k with
  | zero => intro x h1 h2; simp at h2; omega
  | succ k ih =>
    intro x h1 h2
    have hd : 0 ≤ x % 10 ∧ x % 10 ≤ 9 := by omega
    have hb := b8_nat hd
    by_cases hx : x < 10
    · refine ⟨[b8 x], ?_, ?_, ?_, by simp⟩
      · have hb2 := b8_nat (z := x) ⟨by omega, by omega⟩
        intro b hb3
        simp at hb3
        subst hb3
        omega
      · have hb2 := b8_nat (z := x) ⟨by omega, by omega⟩
        simp [decV]; omega
      · have hb2 := b8_nat (z := x) ⟨by omega, by omega⟩
        simp; omega
    · obtain ⟨l, g1, g2, g3, g4⟩ := ih (x / 10) (by omega) (by
        rw [Int.pow_succ] at h2
        omega)
      have hle : l ≠ [] := fun h => by rw [h] at g2; have h4 : decV [] = 0 := rfl; omega
      refine ⟨l ++ [b8 (x % 10)], fun b hb3 => ?_, ?_, ?_, by simp; omega⟩
      · rcases List.mem_append.1 hb3 with h | h
        · exact g1 b h
        · simp at h; subst h; omega
      · rw [decV_snoc, g2]; omega
      · rw [head_snoc l _ hle]; exact g3
end Go.Proofs.Ytomnjcjipdnnfaa
