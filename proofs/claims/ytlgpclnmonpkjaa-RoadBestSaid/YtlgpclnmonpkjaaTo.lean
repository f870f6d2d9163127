/-
  Farriers on their way, in plain words: each step brings somebody nearer.
-/
import Derived.Test.YtlgpclnmonpkjaaTn
namespace Go.Proofs.Ytlgpclnmonpkjaa
open Go.RowKit Go.Deep

theorem Road.to_spot {R : Road} (h : R.Ok) {s t : Sp} (hs : R.spot s) (ht : R.spot t) : R.spot (R.to s t) := by
  unfold Road.to
  split
  · exact Road.up_spot h hs
  · exact Road.au_spot h ht _
/-- one step nearer -/
theorem Road.to_dist {R : Road} (h : R.Ok) {s t : Sp} (hs : R.spot s) (ht : R.spot t) (hne : s ≠ t) : R.dist (R.to s t) t + 1 = R.dist s t := by
  have tl := Road.top_le h hs ht
  unfold Road.to
  by_cases e : R.top s t < R.dep s
  · rw [if_pos e, ← Road.au_up (R := R) (s := s) (by omega)]
    have h1 := Road.top_at h hs ht (d := R.dep s - 1) (by omega)
    have h2 := Road.au_dep h hs (d := R.dep s - 1) (by omega)
    unfold Road.dist
    rw [h1, h2]
    omega
  · rw [if_neg e]
    have hlt : R.dep s < R.dep t := by
      rcases Nat.lt_or_ge (R.dep s) (R.dep t) with g | g
      · exact g
      · exact absurd (Road.top_same h hs ht (by omega) (by omega)) hne
    have h1 := Road.top_at h ht ht (d := R.dep s + 1) (by omega)
    have h2 := Road.au_dep h ht (d := R.dep s + 1) (by omega)
    rw [Road.top_self h ht] at h1
    unfold Road.dist
    rw [h1, h2]
    omega
theorem stepH_spot {R : Road} (h : R.Ok) {H : Nat → Sp} {t k : Nat} (ht : t < R.n) (hS : ∀ i, i < k → R.spot (H i)) : ∀ i, i < k → R.spot (stepH R H t k i) := fun i hi => by
  unfold stepH
  split
  · exact Road.to_spot h (hS i hi) (Road.place_spot ht)
  · exact hS i hi
/-- how far all are from the place t -/
def farS (R : Road) (H : Nat → Sp) (t k : Nat) : Nat := sumN (fun i => R.dist (H i) (t, 0)) k
theorem stepH_sum {R : Road} (h : R.Ok) {H : Nat → Sp} {t k : Nat} (ht : t < R.n) (hS : ∀ i, i < k → R.spot (H i)) (hne : ∀ i, i < k → H i ≠ (t, 0)) : ∀ j, j ≤ k → sumN (fun i => R.dist (stepH R H t k i) (t, 0)) j + cnt (mayB R H t k) j = sumN (fun i => R.dist (H i) (t, 0)) j := by
  intro j
  induction j with
  | zero => intro _; rfl
  | succ j ih =>
    intro hj
    have h1 := ih (by omega)
    have h2 := Road.to_dist h (hS j (by omega)) (Road.place_spot ht) (hne j (by omega))
    simp only [sumN, cnt]
    unfold stepH at *
    cases hm : mayB R H t k j with
    | true => simp only [if_true]; omega
    | false => simp only [Bool.false_eq_true, if_false]; omega
/-- the nearest one with the lowest number may go -/
theorem may_some {R : Road} (h : R.Ok) {H : Nat → Sp} {t k : Nat} (hS : ∀ i, i < k → R.spot (H i)) (hk : 1 ≤ k) : ∃ i, i < k ∧ mayB R H t k i = true := by
  have key : ∀ n i, i < k → R.dist (H i) (t, 0) * (k + 1) + i ≤ n → ∃ i, i < k ∧ mayB R H t k i = true := by
    intro n
    induction n with
    | zero =>
      intro i hi hn
      refine ⟨i, hi, ?_⟩
      unfold mayB
      rw [allN_true]
      intro o ho
      simp only [Bool.not_eq_true']
      unfold holdB
      have h0 : R.dist (H i) (t, 0) * (k + 1) = 0 := by omega
      have h1 : R.dist (H i) (t, 0) = 0 := by
        rcases Nat.eq_zero_or_pos (R.dist (H i) (t, 0)) with e | e
        · exact e
        · have := Nat.mul_pos e (show 0 < k + 1 by omega); omega
      split
      · simp; omega
      · next ne =>
        simp only [decide_eq_false_iff_not]
        intro e
        apply ne
        have h2 : R.dist (H i) (H o) = 0 := by omega
        exact ((Road.dist_zero h (hS i hi) (hS o ho)).1 h2).symm
    | succ n ih =>
      intro i hi hn
      by_cases hm : mayB R H t k i = true
      · exact ⟨i, hi, hm⟩
      · have hf : ∃ o, o < k ∧ holdB R H t o i = true := by
          have hx := hm
          unfold mayB at hx
          rw [allN_true] at hx
          by_cases hex : ∃ o, o < k ∧ holdB R H t o i = true
          · exact hex
          · exfalso
            apply hx
            intro o ho
            cases hb : holdB R H t o i with
            | true => exact absurd ⟨o, ho, hb⟩ hex
            | false => rfl
        obtain ⟨o, ho, hb⟩ := hf
        refine ih o ho ?_
        unfold holdB at hb
        split at hb
        · next e =>
          simp only [decide_eq_true_eq] at hb
          rw [e]
          omega
        · next ne =>
          simp only [decide_eq_true_eq] at hb
          have h2 : 1 ≤ R.dist (H i) (H o) := by
            rcases Nat.eq_zero_or_pos (R.dist (H i) (H o)) with e | e
            · exact absurd ((Road.dist_zero h (hS i hi) (hS o ho)).1 e).symm ne
            · exact e
          have h3 : (R.dist (H o) (t, 0) + 1) * (k + 1) ≤ R.dist (H i) (t, 0) * (k + 1) := Nat.mul_le_mul_right _ (by omega)
          rw [Nat.add_mul] at h3
          omega
  exact key _ 0 (by omega) (Nat.le_refl _)
theorem cnt_pos {p : Nat → Bool} {i : Nat} (hp : p i = true) : ∀ k, i < k → 1 ≤ cnt p k := by
  intro k
  induction k with
  | zero => intro h; omega
  | succ k ih =>
    intro h
    simp only [cnt]
    by_cases e : i = k
    · subst e; rw [hp]; simp
    · have := ih (by omega); omega
/-- the steps to a call: where all are then, and the cost -/
def goF (R : Road) (t k : Nat) : Nat → (Nat → Sp) → (Nat → Sp) × Nat
  | 0, H => (H, 0)
  | f + 1, H => if hasSp H (t, 0) k then (H, 0) else ((goF R t k f (stepH R H t k)).1, (goF R t k f (stepH R H t k)).2 + cnt (mayB R H t k) k)
def goR (R : Road) (t k : Nat) (H : Nat → Sp) : (Nat → Sp) × Nat := goF R t k (farS R H t k) H
theorem no_has {H : Nat → Sp} {s : Sp} {k : Nat} (h : hasSp H s k = false) : ∀ i, i < k → H i ≠ s := fun i hi e => by
  have := hasSp_iff.2 ⟨i, hi, e⟩
  rw [h] at this
  cases this
theorem far_zero {R : Road} (h : R.Ok) {H : Nat → Sp} {t k : Nat} (ht : t < R.n) (hS : ∀ i, i < k → R.spot (H i)) (hk : 1 ≤ k) (h0 : farS R H t k = 0) : hasSp H (t, 0) k = true := by
  refine hasSp_iff.2 ⟨0, by omega, (Road.dist_zero h (hS 0 (by omega)) (Road.place_spot ht)).1 ?_⟩
  have : ∀ j, 1 ≤ j → sumN (fun i => R.dist (H i) (t, 0)) j = 0 → R.dist (H 0) (t, 0) = 0 := by
    intro j
    induction j with
    | zero => intro h; omega
    | succ j ih =>
      intro _ h1
      simp only [sumN] at h1
      by_cases e : j = 0
      · subst e; omega
      · exact ih (by omega) (by omega)
  exact this k hk h0
theorem goF_any {R : Road} (h : R.Ok) {t k : Nat} (ht : t < R.n) (hk : 1 ≤ k) : ∀ f g H, (∀ i, i < k → R.spot (H i)) → farS R H t k ≤ f → farS R H t k ≤ g → goF R t k f H = goF R t k g H := by
  intro f
  induction f with
  | zero =>
    intro g H hS h1 h2
    have hh := far_zero h ht hS hk (by omega)
    cases g with
    | zero => rfl
    | succ g => simp [goF, hh]
  | succ f ih =>
    intro g H hS h1 h2
    by_cases hh : hasSp H (t, 0) k = true
    · cases g with
      | zero => simp [goF, hh]
      | succ g => simp [goF, hh]
    · have hf : hasSp H (t, 0) k = false := by simpa using hh
      have hs := stepH_sum h ht hS (no_has hf) k (Nat.le_refl _)
      obtain ⟨i, hi, hm⟩ := may_some (t := t) h hS hk (H := H)
      have hc := cnt_pos hm k hi
      have hsum : farS R (stepH R H t k) t k + 1 ≤ farS R H t k := by unfold farS; omega
      cases g with
      | zero => omega
      | succ g => simp only [goF, hf]; rw [ih g _ (stepH_spot h ht hS) (by omega) (by omega)]
theorem goR_here {R : Road} {t k : Nat} {H : Nat → Sp} (hh : hasSp H (t, 0) k = true) : goR R t k H = (H, 0) := by
  unfold goR
  cases farS R H t k with
  | zero => rfl
  | succ f => simp [goF, hh]
theorem goR_step {R : Road} (h : R.Ok) {t k : Nat} {H : Nat → Sp} (ht : t < R.n) (hk : 1 ≤ k) (hS : ∀ i, i < k → R.spot (H i)) (hf : hasSp H (t, 0) k = false) :
    goR R t k H = ((goR R t k (stepH R H t k)).1, (goR R t k (stepH R H t k)).2 + cnt (mayB R H t k) k) ∧ farS R (stepH R H t k) t k + cnt (mayB R H t k) k = farS R H t k ∧ 1 ≤ cnt (mayB R H t k) k := by
  have hs := stepH_sum h ht hS (no_has hf) k (Nat.le_refl _)
  obtain ⟨i, hi, hm⟩ := may_some (t := t) h hS hk (H := H)
  have hc := cnt_pos hm k hi
  refine ⟨?_, hs, hc⟩
  have hsum : farS R (stepH R H t k) t k + cnt (mayB R H t k) k = farS R H t k := hs
  unfold goR
  obtain ⟨f, e⟩ : ∃ f, farS R H t k = f + 1 := ⟨farS R H t k - 1, by omega⟩
  rw [e]
  simp only [goF, hf]
  rw [goF_any h ht hk f (farS R (stepH R H t k) t k) _ (stepH_spot h ht hS) (by omega) (Nat.le_refl _)]
  rfl
theorem goR_spot {R : Road} (h : R.Ok) {t k : Nat} (ht : t < R.n) (hk : 1 ≤ k) : ∀ n H, (∀ i, i < k → R.spot (H i)) → farS R H t k ≤ n → (∀ i, i < k → R.spot ((goR R t k H).1 i)) ∧ hasSp (goR R t k H).1 (t, 0) k = true ∧ (goR R t k H).2 ≤ farS R H t k := by
  intro n
  induction n with
  | zero =>
    intro H hS hn
    have hh := far_zero h ht hS hk (by omega)
    rw [goR_here hh]
    exact ⟨hS, hh, Nat.zero_le _⟩
  | succ n ih =>
    intro H hS hn
    by_cases hh : hasSp H (t, 0) k = true
    · rw [goR_here hh]
      exact ⟨hS, hh, Nat.zero_le _⟩
    · obtain ⟨e1, e2, e3⟩ := goR_step h ht hk hS (by simpa using hh)
      obtain ⟨g1, g2, g3⟩ := ih (stepH R H t k) (stepH_spot h ht hS) (by omega)
      rw [e1]
      exact ⟨g1, g2, by simp only; omega⟩
theorem far_le {R : Road} (h : R.Ok) {H : Nat → Sp} {t k : Nat} (ht : t < R.n) (hS : ∀ i, i < k → R.spot (H i)) : farS R H t k ≤ 360 * k :=
  sumN_le _ 360 k (fun i hi => Road.dist_le h (hS i hi) (Road.place_spot ht))
/-- where all are after i calls, and the cost of call i -/
def servH (R : Road) (k : Nat) (C : Nat → Nat) (H : Nat → Sp) : Nat → (Nat → Sp)
  | 0 => H
  | i + 1 => (goR R (C i) k (servH R k C H i)).1
def servC (R : Road) (k : Nat) (C : Nat → Nat) (H : Nat → Sp) (i : Nat) : Nat := (goR R (C i) k (servH R k C H i)).2
theorem servH_spot {R : Road} (h : R.Ok) {k m : Nat} {C : Nat → Nat} {H : Nat → Sp} (hk : 1 ≤ k) (hC : ∀ i, i < m → C i < R.n) (hS : ∀ i, i < k → R.spot (H i)) : ∀ i, i ≤ m → ∀ j, j < k → R.spot (servH R k C H i j) := by
  intro i
  induction i with
  | zero => intro _; exact hS
  | succ i ih =>
    intro hi
    exact (goR_spot h (hC i (by omega)) hk _ _ (ih (by omega)) (Nat.le_refl _)).1
theorem servC_le {R : Road} (h : R.Ok) {k m : Nat} {C : Nat → Nat} {H : Nat → Sp} (hk : 1 ≤ k) (hC : ∀ i, i < m → C i < R.n) (hS : ∀ i, i < k → R.spot (H i)) (i : Nat) (hi : i < m) : servC R k C H i ≤ 360 * k := by
  have hs := servH_spot h hk hC hS i (by omega)
  exact Nat.le_trans (goR_spot h (hC i hi) hk _ _ hs (Nat.le_refl _)).2.2 (far_le h (hC i hi) hs)
end Go.Proofs.Ytlgpclnmonpkjaa
