/-
  What burns wholly has no forbidden set, and no level is below 0. No program is named here.
-/
import Derived.Test.YtlnpipkhofhlnaaNf
namespace Go.Proofs.Ytlnpipkhofhlnaa
open Go.RowKit

theorem unb_inS {N : Nat} {J : Nat → Nat → Nat} {b : Nat → Bool} {U : Nat → Bool} (h : ∀ i, i < N → U i = true → b (i + 1) = false) (i : Nat) : inS J N U i ≤ (unb (N + 1) J b (i + 1) : Int) := by
  unfold unb
  rw [sumN_shift]
  have h1 : inS J N U i ≤ ((sumN (fun j => if b (j + 1) = true then 0 else J (i + 1) (j + 1)) N : Nat) : Int) := by
    rw [← sumZ_nat]
    refine sumZ_le (fun j hj => ?_)
    show (if U j = true then (J (i + 1) (j + 1) : Int) else 0) ≤ ((if b (j + 1) = true then 0 else J (i + 1) (j + 1) : Nat) : Int)
    cases e : U j
    · simp
    · rw [h j hj e]; simp
  omega
theorem burnL_forbid {N : Nat} {J : Nat → Nat → Nat} {f : Nat → Int} {U : Nat → Bool} (hU : ∃ i, i < N ∧ U i = true) (hf : ∀ i, i < N → U i = true → f i < inS J N U i) :
    ∀ g b l, b 0 = true → (∀ i, i < N → U i = true → b (i + 1) = false) → (burnL (N + 1) J f g b l).length + 1 ≤ l.length + cold b (N + 1) := by
  intro g
  induction g with
  | zero =>
    intro b l _ hb
    obtain ⟨i, hi, hUi⟩ := hU
    have := cnt_pos (p := fun i => !b i) (n := N + 1) (i := i + 1) (by omega) (by rw [hb i hi hUi]; rfl)
    show l.length + 1 ≤ l.length + cnt _ _
    omega
  | succ g ih =>
    intro b l h0 hb
    simp only [burnL]
    by_cases e : catchV (N + 1) J f b = 0
    · rw [if_pos e]
      obtain ⟨i, hi, hUi⟩ := hU
      have := cnt_pos (p := fun i => !b i) (n := N + 1) (i := i + 1) (by omega) (by rw [hb i hi hUi]; rfl)
      show l.length + 1 ≤ l.length + cnt _ _
      omega
    · rw [if_neg e]
      have hlt := (catch_hot e).1
      have hcb := catch_cold e
      have hht := (catch_hot e).2
      generalize catchV (N + 1) J f b = c at *
      have h1 := cold_upd hlt hcb
      have hht2 : (unb (N + 1) J b c : Int) ≤ f (c - 1) := by
        simp only [hot, Bool.and_eq_true, decide_eq_true_eq] at hht
        exact hht.2
      have h2 := ih (upd b c) (l ++ [c]) (by simp [upd, h0]) (fun i hi hUi => by
        unfold upd
        rw [if_neg]
        · exact hb i hi hUi
        · intro ec
          have h3 := unb_inS (J := J) hb i
          rw [ec] at h3
          rw [← ec, Nat.add_sub_cancel, ec] at hht2
          have := hf i hi hUi
          omega)
      simp only [List.length_append, List.length_singleton] at h2
      omega
theorem burn_nf {N : Nat} {J : Nat → Nat → Nat} {f : Nat → Int} (h : (burnAll (N + 1) J f).length = N) : NF N J f := fun U hU => by
  refine Classical.byContradiction fun hno => ?_
  have h1 := burnL_forbid (J := J) (f := f) hU (fun i hi hUi => Int.not_le.1 (fun hle => hno ⟨i, hi, hUi, hle⟩)) (N + 1) (fun i => decide (i = 0)) [] rfl (fun i _ _ => rfl)
  have h2 := cold_start (n := N + 1) (by omega)
  unfold burnAll at h
  simp only [List.length_nil] at h1
  omega
theorem burn_iff {N : Nat} {J : Nat → Nat → Nat} {f : Nat → Int} : (burnAll (N + 1) J f).length = N ↔ NF N J f := ⟨burn_nf, nf_burn⟩
theorem lev_nonneg {N m : Nat} {D : Nat → Nat} {J : Nat → Nat → Nat} {f : Nat → Int} (ok : YardOk (N + 1) D J) (h : NF N J f) (hm : sumN D (N + 1) = 2 * m) : 0 ≤ (D 0 : Int) - m + sumZ f N := by
  have h1 := nf_sum ok h N (fun _ => true) (cnt_le _ _)
  have e1 : onS (fun _ => true) f N = sumZ f N := sumZ_congr (fun j _ => by simp)
  have e2 : onS (fun _ => true) (fun i => inS J N (fun _ => true) i) N = sumZ (fun i => (D (i + 1) : Int) + (-1) * (J (i + 1) 0 : Int)) N := sumZ_congr (fun i hi => by
    show (if true = true then inS J N (fun _ => true) i else 0) = _
    rw [if_pos rfl]
    have h2 := ok.row (v := i + 1) (by omega)
    have h3 : inS J N (fun _ => true) i = sumZ (fun j => (J (i + 1) (j + 1) : Int)) N := sumZ_congr (fun j _ => by simp)
    omega)
  have e3 := ok.row (v := 0) (by omega)
  have e4 : sumZ (fun i => (-1) * (J (i + 1) 0 : Int)) N = -1 * sumZ (fun j => (J 0 (j + 1) : Int)) N := by
    rw [← sumZ_mul]; exact sumZ_congr (fun j _ => by rw [ok.sym 0 (j + 1)])
  have e5 : sumZ (fun i => (D (i + 1) : Int)) N = ((sumN (fun i => D (i + 1)) N : Nat) : Int) := sumZ_nat _ _
  rw [sumN_shift] at hm
  rw [e1, e2, sumZ_add (fun i => (D (i + 1) : Int)) (fun i => (-1) * (J (i + 1) 0 : Int)), e4, e5] at h1
  rw [ok.J0 0 (by omega)] at e3
  omega
end Go.Proofs.Ytlnpipkhofhlnaa
