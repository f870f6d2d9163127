/-
  Heaps without a forbidden set: those that burn wholly. What tops them has none either, toppling keeps it, and their bars are at least the edges that do not touch the sink. No program is named here.
  And: What burns wholly has no forbidden set, and no level is below 0. No program is named here.
-/
import Derived.Test.YtlnpipkhofhlnaaY
import Derived.Test.YtlnpipkhofhlnaaDc
namespace Go.Proofs.Ytlnpipkhofhlnaa
open Go.RowKit

def inS (J : Nat → Nat → Nat) (N : Nat) (U : Nat → Bool) (i : Nat) : Int := onS U (fun j => (J (i + 1) (j + 1) : Int)) N
/-- every set has a vertex with at least as many bars as edges into the set -/
def NF (N : Nat) (J : Nat → Nat → Nat) (f : Nat → Int) : Prop := ∀ U : Nat → Bool, (∃ i, i < N ∧ U i = true) → ∃ i, i < N ∧ U i = true ∧ inS J N U i ≤ f i
theorem NF.mono {N : Nat} {J : Nat → Nat → Nat} {f g : Nat → Int} (h : NF N J f) (hg : ∀ i, i < N → f i ≤ g i) : NF N J g := fun U hU => by
  obtain ⟨i, hi, hUi, hle⟩ := h U hU
  exact ⟨i, hi, hUi, Int.le_trans hle (hg i hi)⟩
theorem onS_split (U V : Nat → Bool) (f : Nat → Int) (N : Nat) : onS U f N = onS (fun j => U j && V j) f N + onS (fun j => U j && !V j) f N := by
  unfold onS
  rw [← sumZ_add]
  refine sumZ_congr (fun j _ => ?_)
  show (if U j = true then f j else 0) = (if (U j && V j) = true then f j else 0) + (if (U j && !V j) = true then f j else 0)
  cases U j <;> cases V j <;> simp
theorem onS_le {U : Nat → Bool} {f g : Nat → Int} {N : Nat} (h : ∀ j, j < N → U j = true → f j ≤ g j) : onS U f N ≤ onS U g N := by
  unfold onS
  refine sumZ_le (fun j hj => ?_)
  show (if U j = true then f j else 0) ≤ (if U j = true then g j else 0)
  cases e : U j
  · simp
  · simpa using h j hj e
theorem onS_sub {U : Nat → Bool} {f : Nat → Int} {N : Nat} (h : ∀ j, j < N → 0 ≤ f j) : onS U f N ≤ sumZ f N := by
  unfold onS
  refine sumZ_le (fun j hj => ?_)
  show (if U j = true then f j else 0) ≤ f j
  have := h j hj
  cases U j <;> simp [this]
theorem inS_le {N : Nat} {D : Nat → Nat} {J : Nat → Nat → Nat} (ok : YardOk (N + 1) D J) (U : Nat → Bool) {i : Nat} (hi : i < N) : inS J N U i ≤ D (i + 1) := by
  have h1 := ok.row (v := i + 1) (by omega)
  have h2 : inS J N U i ≤ sumZ (fun j => (J (i + 1) (j + 1) : Int)) N := onS_sub (f := fun j => (J (i + 1) (j + 1) : Int)) (fun j _ => Int.natCast_nonneg _)
  have : (0 : Int) ≤ (J (i + 1) 0 : Int) := Int.natCast_nonneg _
  omega
theorem nf_top {N : Nat} {D : Nat → Nat} {J : Nat → Nat → Nat} {p : Nat → Nat} (ok : YardOk (N + 1) D J) (hp : Ranked (N + 1) J p) {f : Nat → Int} (hf : ∀ i, i < N → (D (i + 1) : Int) - 1 ≤ f i) : NF N J f := fun U hU => by
  obtain ⟨i, hi, hUi, hout⟩ := hp.out hU
  refine ⟨i, hi, hUi, ?_⟩
  have h1 := ok.row (v := i + 1) (by omega)
  have hfi := hf i hi
  have hz : (0 : Int) ≤ (J (i + 1) 0 : Int) := Int.natCast_nonneg _
  have h3 := onS_split (fun _ => true) U (fun j => (J (i + 1) (j + 1) : Int)) N
  have h4 : onS (fun j => true && U j) (fun j => (J (i + 1) (j + 1) : Int)) N = inS J N U i := sumZ_congr (fun j _ => by simp)
  have h5 : onS (fun _ => true) (fun j => (J (i + 1) (j + 1) : Int)) N = sumZ (fun j => (J (i + 1) (j + 1) : Int)) N := sumZ_congr (fun j _ => by simp)
  have hn : ∀ j, j < N → (0 : Int) ≤ (if (true && !U j) = true then (J (i + 1) (j + 1) : Int) else 0) := fun j _ => by split <;> omega
  have h6 : 0 ≤ onS (fun j => true && !U j) (fun j => (J (i + 1) (j + 1) : Int)) N := sumZ_nonneg hn
  rcases hout with h | ⟨j, hj, hUj, hJ⟩
  · omega
  · have h7 := sumZ_ge (f := fun j => if (true && !U j) = true then (J (i + 1) (j + 1) : Int) else 0) hj hn
    rw [show (if (true && !U j) = true then (J (i + 1) (j + 1) : Int) else 0) = (J (i + 1) (j + 1) : Int) by rw [hUj]; simp] at h7
    have h8 : onS (fun j => true && !U j) (fun j => (J (i + 1) (j + 1) : Int)) N = sumZ (fun j => if (true && !U j) = true then (J (i + 1) (j + 1) : Int) else 0) N := rfl
    omega

/-- one toppling less on a set -/
def lessU (U : Nat → Bool) (x : Nat → Int) (v : Nat) : Int := x v - (if v = 0 then 0 else if U (v - 1) = true then 1 else 0)
theorem sumZ_shift (f : Nat → Int) (n : Nat) : sumZ f (n + 1) = f 0 + sumZ (fun j => f (j + 1)) n := by
  induction n with
  | zero => simp [sumZ]
  | succ n ih => rw [sumZ, ih]; simp only [sumZ]; omega
theorem fin_less (N : Nat) (D : Nat → Nat) (J : Nat → Nat → Nat) (h x : Nat → Int) (U : Nat → Bool) (v : Nat) :
    fin (N + 1) D J h (lessU U x) v = fin (N + 1) D J h x v - onS U (fun j => (J (j + 1) v : Int)) N + (if v = 0 then 0 else if U (v - 1) = true then (D v : Int) else 0) := by
  unfold fin
  have e1 : sumZ (fun w => lessU U x w * (J w v : Int)) (N + 1) = sumZ (fun w => x w * (J w v : Int)) (N + 1) - onS U (fun j => (J (j + 1) v : Int)) N := by
    have e2 : sumZ (fun w => lessU U x w * (J w v : Int)) (N + 1) + sumZ (fun w => (if w = 0 then 0 else if U (w - 1) = true then 1 else 0) * (J w v : Int)) (N + 1) = sumZ (fun w => x w * (J w v : Int)) (N + 1) := by
      rw [← sumZ_add]
      refine sumZ_congr (fun w _ => ?_)
      show lessU U x w * (J w v : Int) + _ * (J w v : Int) = x w * (J w v : Int)
      rw [← Int.add_mul]; unfold lessU; rw [Int.sub_add_cancel]
    have e3 : sumZ (fun w => (if w = 0 then 0 else if U (w - 1) = true then 1 else 0) * (J w v : Int)) (N + 1) = onS U (fun j => (J (j + 1) v : Int)) N := by
      rw [sumZ_shift]
      simp only [if_true, Int.zero_mul, Int.zero_add]
      refine sumZ_congr (fun j _ => ?_)
      show (if j + 1 = 0 then 0 else if U (j + 1 - 1) = true then 1 else 0) * (J (j + 1) v : Int) = (if U j = true then (J (j + 1) v : Int) else 0)
      rw [if_neg (by omega), Nat.add_sub_cancel]
      cases U j <;> simp
    omega
  rw [e1]
  unfold lessU
  by_cases hv : v = 0
  · rw [if_pos hv, if_pos hv]; simp; omega
  · rw [if_neg hv, if_neg hv]
    cases U (v - 1)
    · simp; omega
    · simp only [if_true]; rw [Int.sub_mul]; omega
theorem nf_odo {N : Nat} {D : Nat → Nat} {J : Nat → Nat → Nat} {h x : Nat → Int} (ok : YardOk (N + 1) D J) (hn : NF N J (fun i => h (i + 1))) (ho : Odo (N + 1) D J h x) : NF N J (fun i => fin (N + 1) D J h x (i + 1)) := by
  intro U hU
  obtain ⟨⟨x0, xp, xs⟩, hle⟩ := ho
  by_cases hA : ∃ i, i < N ∧ (U i && decide (x (i + 1) = 0)) = true
  · obtain ⟨i, hi, hUi, hin⟩ := hn (fun i => U i && decide (x (i + 1) = 0)) hA
    have hUi' : U i = true ∧ x (i + 1) = 0 := by simpa using hUi
    refine ⟨i, hi, hUi'.1, ?_⟩
    have h1 := onS_split U (fun i => decide (x (i + 1) = 0)) (fun j => (J (i + 1) (j + 1) : Int)) N
    have h2 : onS (fun j => U j && !decide (x (j + 1) = 0)) (fun j => (J (i + 1) (j + 1) : Int)) N ≤ sumZ (fun w => x w * (J w (i + 1) : Int)) (N + 1) := by
      rw [sumZ_shift]
      rw [x0]
      simp only [Int.zero_mul, Int.zero_add]
      refine sumZ_le (fun j hj => ?_)
      show (if (U j && !decide (x (j + 1) = 0)) = true then (J (i + 1) (j + 1) : Int) else 0) ≤ x (j + 1) * (J (j + 1) (i + 1) : Int)
      have hxj := xp (j + 1) (by omega)
      have hnn : 0 ≤ x (j + 1) * (J (j + 1) (i + 1) : Int) := Int.mul_nonneg hxj (by omega)
      by_cases e : (U j && !decide (x (j + 1) = 0)) = true
      · rw [if_pos e]
        have e' : U j = true ∧ ¬ x (j + 1) = 0 := by simpa using e
        rw [ok.sym (i + 1) (j + 1)]
        have : 1 * (J (j + 1) (i + 1) : Int) ≤ x (j + 1) * (J (j + 1) (i + 1) : Int) := Int.mul_le_mul_of_nonneg_right (by omega) (by omega)
        omega
      · rw [if_neg e]; exact hnn
    show onS U (fun j => (J (i + 1) (j + 1) : Int)) N ≤ h (i + 1) + sumZ (fun w => x w * (J w (i + 1) : Int)) (N + 1) - x (i + 1) * (D (i + 1) : Int)
    rw [hUi'.2]
    have h3 : onS (fun j => U j && decide (x (j + 1) = 0)) (fun j => (J (i + 1) (j + 1) : Int)) N ≤ h (i + 1) := hin
    omega
  · have hpos : ∀ i, i < N → U i = true → 1 ≤ x (i + 1) := fun i hi hUi => by
      have := xp (i + 1) (by omega)
      rcases Int.lt_or_le 0 (x (i + 1)) with h | h
      · omega
      · exact absurd ⟨i, hi, by simp [hUi]; omega⟩ hA
    rcases Classical.em (∃ i, i < N ∧ U i = true ∧ inS J N U i ≤ fin (N + 1) D J h x (i + 1)) with hex | hex
    · exact hex
    · exfalso
      obtain ⟨k, hk, hUk⟩ := hU
      have hs : Stab (N + 1) D J h (lessU U x) := by
        refine ⟨by unfold lessU; rw [x0]; rfl, fun v hv => ?_, fun v h1 hv => ?_⟩
        · unfold lessU
          have := xp v hv
          by_cases e : v = 0
          · rw [if_pos e]; omega
          · rw [if_neg e]
            cases eU : U (v - 1)
            · simpa using this
            · have := hpos (v - 1) (by omega) eU
              rw [show v - 1 + 1 = v by omega] at this
              simp; omega
        · obtain ⟨i, rfl⟩ : ∃ i, v = i + 1 := ⟨v - 1, by omega⟩
          rw [fin_less, if_neg (by omega), Nat.add_sub_cancel]
          have hx := xs (i + 1) h1 hv
          have e3 : onS U (fun j => (J (j + 1) (i + 1) : Int)) N = inS J N U i := onS_congr (fun j _ _ => by rw [ok.sym])
          rw [e3]
          have h0 : 0 ≤ inS J N U i := sumZ_nonneg (fun j _ => by show (0 : Int) ≤ (if U j = true then (J (i + 1) (j + 1) : Int) else 0); split <;> omega)
          cases eU : U i
          · simp; omega
          · have : ¬ inS J N U i ≤ fin (N + 1) D J h x (i + 1) := fun h' => hex ⟨i, by omega, eU, h'⟩
            simp; omega
      have := hle _ hs (k + 1) (by omega)
      unfold lessU at this
      rw [if_neg (by omega), Nat.add_sub_cancel, hUk] at this
      simp at this
      omega
theorem nf_burn {N : Nat} {J : Nat → Nat → Nat} {f : Nat → Int} (h : NF N J f) : (burnAll (N + 1) J f).length = N := by
  have hc0 := cold_start (n := N + 1) (by omega)
  obtain ⟨b, h1, h2, h3⟩ := burnL_end (n := N + 1) (J := J) (h := f) (N + 1) (fun i => decide (i = 0)) [] rfl (by omega)
  simp only [List.length_nil] at h3
  unfold burnAll
  rcases Nat.eq_zero_or_pos (cold b (N + 1)) with e | e
  · omega
  · exfalso
    obtain ⟨v, hv, hbv⟩ := cnt_some e
    have hcn := catch_none h2 h1
    have hv0 : v ≠ 0 := fun e => by rw [e, h1] at hbv; cases hbv
    obtain ⟨i, hi, hUi, hin⟩ := h (fun j => !b (j + 1)) ⟨v - 1, by omega, by rw [show v - 1 + 1 = v by omega]; exact hbv⟩
    have h5 := hcn (i + 1) (by omega)
    have e2 : (unb (N + 1) J b (i + 1) : Int) = inS J N (fun j => !b (j + 1)) i := by
      unfold unb inS onS
      rw [sumN_shift, h1]
      simp only [if_true, Nat.zero_add]
      rw [← sumZ_nat]
      refine sumZ_congr (fun j _ => ?_)
      show ((if b (j + 1) = true then 0 else J (i + 1) (j + 1) : Nat) : Int) = (if (!b (j + 1)) = true then (J (i + 1) (j + 1) : Int) else 0)
      cases b (j + 1) <;> simp
    have hbi : b (i + 1) = false := by simpa using hUi
    unfold hot at h5
    rw [hbi, e2] at h5
    simp at h5
    omega
def rem (U : Nat → Bool) (i : Nat) : Nat → Bool := fun j => if j = i then false else U j
theorem cnt_rem {U : Nat → Bool} {i N : Nat} (hi : i < N) (hU : U i = true) : cnt (rem U i) N + 1 = cnt U N := by
  induction N with
  | zero => omega
  | succ N ih =>
    simp only [cnt]
    by_cases e : i = N
    · subst e
      rw [cnt_congr (p := rem U i) (q := U) (n := i) (fun j hj => by unfold rem; rw [if_neg (by omega)])]
      simp [rem, hU]
    · have := ih (by omega)
      have e2 : rem U i N = U N := by unfold rem; rw [if_neg (by omega)]
      rw [e2]; omega
theorem onS_rem {U : Nat → Bool} {i N : Nat} (f : Nat → Int) (hi : i < N) (hU : U i = true) : onS U f N = onS (rem U i) f N + f i := by
  have h1 := sumZ_one (f := fun j => if j = i then f i else 0) hi (fun j _ hne => if_neg hne)
  simp only [if_true] at h1
  rw [← h1]
  unfold onS
  rw [← sumZ_add]
  refine sumZ_congr (fun j _ => ?_)
  show (if U j = true then f j else 0) = (if rem U i j = true then f j else 0) + (if j = i then f i else 0)
  unfold rem
  by_cases e : j = i
  · subst e; simp [hU]
  · simp [e]
/-- the edges within a set, each counted twice -/
theorem nf_sum {N : Nat} {D : Nat → Nat} {J : Nat → Nat → Nat} {f : Nat → Int} (ok : YardOk (N + 1) D J) (h : NF N J f) : ∀ g U, cnt U N ≤ g → onS U (fun i => inS J N U i) N ≤ 2 * onS U f N := by
  intro g
  induction g with
  | zero =>
    intro U hU
    have hz := cnt_zero (by omega : cnt U N = 0)
    have h1 : ∀ F : Nat → Int, onS U F N = 0 := fun F => by
      have : onS U F N = sumZ (fun j => (0 : Int) * F j) N := sumZ_congr (fun j hj => by show (if U j = true then F j else 0) = 0 * F j; rw [hz j hj]; simp)
      rw [this, sumZ_mul]; simp
    rw [h1, h1]; simp
  | succ g ih =>
    intro U hU
    rcases Classical.em (∃ i, i < N ∧ U i = true) with he | he
    · obtain ⟨i, hi, hUi, hin⟩ := h U he
      have h1 := ih (rem U i) (by have := cnt_rem hi hUi; omega)
      have h2 := onS_rem f hi hUi
      have h3 := onS_rem (fun a => inS J N U a) hi hUi
      have h4 : onS (rem U i) (fun a => inS J N U a) N = onS (rem U i) (fun a => inS J N (rem U i) a) N + inS J N (rem U i) i := by
        have e1 : onS (rem U i) (fun a => inS J N U a) N = onS (rem U i) (fun a => 1 * inS J N (rem U i) a + 1 * (J (i + 1) (a + 1) : Int)) N := onS_congr (fun a _ _ => by
          show inS J N U a = _
          unfold inS
          rw [onS_rem (fun j => (J (a + 1) (j + 1) : Int)) hi hUi, ok.sym (a + 1) (i + 1)]; omega)
        rw [e1, onS_lin]
        unfold inS; omega
      have h5 : inS J N U i = inS J N (rem U i) i := by
        unfold inS
        rw [onS_rem (fun j => (J (i + 1) (j + 1) : Int)) hi hUi, ok.J0 (i + 1) (by omega)]; simp
      omega
    · have h1 : ∀ F : Nat → Int, onS U F N = 0 := fun F => by
        have : onS U F N = sumZ (fun j => (0 : Int) * F j) N := sumZ_congr (fun j hj => by
          show (if U j = true then F j else 0) = 0 * F j
          cases e : U j
          · simp
          · exact absurd ⟨j, hj, e⟩ he)
        rw [this, sumZ_mul]; simp
      rw [h1, h1]; simp
end Go.Proofs.Ytlnpipkhofhlnaa
namespace Go.Proofs.Ytlnpipkhofhlnaa
open Go.RowKit

theorem unb_inS {N : Nat} {J : Nat → Nat → Nat} {b : Nat → Bool} {U : Nat → Bool} (h : ∀ i, i < N → U i = true → b (i + 1) = false) (i : Nat) : inS J N U i ≤ (unb (N + 1) J b (i + 1) : Int) := by
  unfold unb
  rw [sumN_shift]
  have h1 : inS J N U i ≤ ((sumN (fun j => if b (j + 1) = true then 0 else J (i + 1) (j + 1)) N : Nat) : Int) := by
    rw [← sumZ_nat]
    refine sumZ_le (fun j hj => ?_)
    show (if U j = true then (J (i + 1) (j + 1) : Int) else 0) ≤ ((if b (j + 1) = true then 0 else J (i + 1) (j + 1) : Nat) : Int)
    cases e : U j
    · simp
    · rw [h j hj e]; simp
  omega
theorem burnL_forbid {N : Nat} {J : Nat → Nat → Nat} {f : Nat → Int} {U : Nat → Bool} (hU : ∃ i, i < N ∧ U i = true) (hf : ∀ i, i < N → U i = true → f i < inS J N U i) :
    ∀ g b l, b 0 = true → (∀ i, i < N → U i = true → b (i + 1) = false) → (burnL (N + 1) J f g b l).length + 1 ≤ l.length + cold b (N + 1) := by
  intro g
  induction g with
  | zero =>
    intro b l _ hb
    obtain ⟨i, hi, hUi⟩ := hU
    have := cnt_pos (p := fun i => !b i) (n := N + 1) (i := i + 1) (by omega) (by rw [hb i hi hUi]; rfl)
    show l.length + 1 ≤ l.length + cnt _ _
    omega
  | succ g ih =>
    intro b l h0 hb
    simp only [burnL]
    by_cases e : catchV (N + 1) J f b = 0
    · rw [if_pos e]
      obtain ⟨i, hi, hUi⟩ := hU
      have := cnt_pos (p := fun i => !b i) (n := N + 1) (i := i + 1) (by omega) (by rw [hb i hi hUi]; rfl)
      show l.length + 1 ≤ l.length + cnt _ _
      omega
    · rw [if_neg e]
      have hlt := (catch_hot e).1
      have hcb := catch_cold e
      have hht := (catch_hot e).2
      generalize catchV (N + 1) J f b = c at *
      have h1 := cold_upd hlt hcb
      have hht2 : (unb (N + 1) J b c : Int) ≤ f (c - 1) := by
        simp only [hot, Bool.and_eq_true, decide_eq_true_eq] at hht
        exact hht.2
      have h2 := ih (upd b c) (l ++ [c]) (by simp [upd, h0]) (fun i hi hUi => by
        unfold upd
        rw [if_neg]
        · exact hb i hi hUi
        · intro ec
          have h3 := unb_inS (J := J) hb i
          rw [ec] at h3
          rw [← ec, Nat.add_sub_cancel, ec] at hht2
          have := hf i hi hUi
          omega)
      simp only [List.length_append, List.length_singleton] at h2
      omega
theorem burn_nf {N : Nat} {J : Nat → Nat → Nat} {f : Nat → Int} (h : (burnAll (N + 1) J f).length = N) : NF N J f := fun U hU => by
  refine Classical.byContradiction fun hno => ?_
  have h1 := burnL_forbid (J := J) (f := f) hU (fun i hi hUi => Int.not_le.1 (fun hle => hno ⟨i, hi, hUi, hle⟩)) (N + 1) (fun i => decide (i = 0)) [] rfl (fun i _ _ => rfl)
  have h2 := cold_start (n := N + 1) (by omega)
  unfold burnAll at h
  simp only [List.length_nil] at h1
  omega
theorem burn_iff {N : Nat} {J : Nat → Nat → Nat} {f : Nat → Int} : (burnAll (N + 1) J f).length = N ↔ NF N J f := ⟨burn_nf, nf_burn⟩
theorem lev_nonneg {N m : Nat} {D : Nat → Nat} {J : Nat → Nat → Nat} {f : Nat → Int} (ok : YardOk (N + 1) D J) (h : NF N J f) (hm : sumN D (N + 1) = 2 * m) : 0 ≤ (D 0 : Int) - m + sumZ f N := by
  have h1 := nf_sum ok h N (fun _ => true) (cnt_le _ _)
  have e1 : onS (fun _ => true) f N = sumZ f N := sumZ_congr (fun j _ => by simp)
  have e2 : onS (fun _ => true) (fun i => inS J N (fun _ => true) i) N = sumZ (fun i => (D (i + 1) : Int) + (-1) * (J (i + 1) 0 : Int)) N := sumZ_congr (fun i hi => by
    show (if true = true then inS J N (fun _ => true) i else 0) = _
    rw [if_pos rfl]
    have h2 := ok.row (v := i + 1) (by omega)
    have h3 : inS J N (fun _ => true) i = sumZ (fun j => (J (i + 1) (j + 1) : Int)) N := sumZ_congr (fun j _ => by simp)
    omega)
  have e3 := ok.row (v := 0) (by omega)
  have e4 : sumZ (fun i => (-1) * (J (i + 1) 0 : Int)) N = -1 * sumZ (fun j => (J 0 (j + 1) : Int)) N := by
    rw [← sumZ_mul]; exact sumZ_congr (fun j _ => by rw [ok.sym 0 (j + 1)])
  have e5 : sumZ (fun i => (D (i + 1) : Int)) N = ((sumN (fun i => D (i + 1)) N : Nat) : Int) := sumZ_nat _ _
  rw [sumN_shift] at hm
  rw [e1, e2, sumZ_add (fun i => (D (i + 1) : Int)) (fun i => (-1) * (J (i + 1) 0 : Int)), e4, e5] at h1
  rw [ok.J0 0 (by omega)] at e3
  omega
end Go.Proofs.Ytlnpipkhofhlnaa
