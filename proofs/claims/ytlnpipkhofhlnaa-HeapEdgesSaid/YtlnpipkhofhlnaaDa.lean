/-
  Determinants by expansion, in plain numbers. No program is named here.
  And: Bareiss's rule on a matrix of a yard's kind: every division is exact, every pivot above 0. No program is named here.
-/
import Derived.Test.YtlnpipkhofhlnaaOdo
namespace Go.Proofs.Ytlnpipkhofhlnaa
/-- expansion of a row over a list of columns -/
def TT (r : Nat → Int) : (List Nat → Int) → List Nat → Int
  | _, [] => 0
  | f, c :: cs => r c * f cs - TT r (fun l => f (c :: l)) cs
theorem TT_lin (r : Nat → Int) (a b : Int) : ∀ (cs : List Nat) (f g : List Nat → Int), TT r (fun l => a * f l + b * g l) cs = a * TT r f cs + b * TT r g cs := by
  intro cs
  induction cs with
  | nil => intro f g; simp [TT]
  | cons c cs ih =>
    intro f g
    simp only [TT]
    rw [ih (fun l => f (c :: l)) (fun l => g (c :: l))]
    grind
theorem TT_row (r s : Nat → Int) (a b : Int) : ∀ (cs : List Nat) (f : List Nat → Int), TT (fun j => a * r j + b * s j) f cs = a * TT r f cs + b * TT s f cs := by
  intro cs
  induction cs with
  | nil => intro f; simp [TT]
  | cons c cs ih =>
    intro f
    simp only [TT]
    rw [ih (fun l => f (c :: l))]
    grind
theorem TT_zero (r : Nat → Int) : ∀ (cs : List Nat) (f : List Nat → Int), (∀ l, f l = 0) → TT r f cs = 0 := by
  intro cs
  induction cs with
  | nil => intro f _; rfl
  | cons c cs ih =>
    intro f hf
    simp only [TT]
    rw [hf cs, ih _ (fun l => hf (c :: l))]
    simp
theorem TT_anti (a b : Nat → Int) : ∀ (cs : List Nat) (f : List Nat → Int), TT a (TT b f) cs = - TT b (TT a f) cs := by
  intro cs
  induction cs with
  | nil => intro f; simp [TT]
  | cons c cs ih =>
    intro f
    have h := ih (fun l => f (c :: l))
    have e1 : TT a (TT b f) (c :: cs) = a c * TT b f cs - TT a (fun l => b c * f l + (-1) * TT b (fun m => f (c :: m)) l) cs := by
      show a c * TT b f cs - TT a (fun l => b c * f l - TT b (fun m => f (c :: m)) l) cs = _
      congr 2
      funext l
      omega
    have e2 : TT b (TT a f) (c :: cs) = b c * TT a f cs - TT b (fun l => a c * f l + (-1) * TT a (fun m => f (c :: m)) l) cs := by
      show b c * TT a f cs - TT b (fun l => a c * f l - TT a (fun m => f (c :: m)) l) cs = _
      congr 2
      funext l
      omega
    rw [e1, e2, TT_lin, TT_lin]
    have h' : TT a (fun l => TT b (fun m => f (c :: m)) l) cs = - TT b (fun l => TT a (fun m => f (c :: m)) l) cs := h
    grind
/-- the determinant of rows, over a list of columns -/
def FF : List (Nat → Int) → List Nat → Int
  | [], _ => 1
  | r :: rs, l => TT r (FF rs) l
theorem FF_mem (v : Nat → Int) : ∀ (rs : List (Nat → Int)), v ∈ rs → ∀ cs, TT v (FF rs) cs = 0 := by
  intro rs
  induction rs with
  | nil => intro h; cases h
  | cons r rs ih =>
    intro h cs
    rcases List.mem_cons.1 h with rfl | h2
    · have := TT_anti v v cs (FF rs)
      show TT v (TT v (FF rs)) cs = 0
      omega
    · show TT v (TT r (FF rs)) cs = 0
      rw [TT_anti, TT_zero r cs _ (ih h2)]
      rfl
def RL (row : Nat → Nat → Int) : Nat → List (Nat → Int)
  | 0 => []
  | k + 1 => row k :: RL row k
theorem RL_mem (row : Nat → Nat → Int) {l k : Nat} (h : l < k) : row l ∈ RL row k := by
  induction k with
  | zero => omega
  | succ k ih =>
    simp only [RL]
    by_cases e : l = k
    · subst e; exact List.mem_cons_self
    · exact List.mem_cons_of_mem _ (ih (by omega))
def sgP : Nat → Int
  | 0 => 1
  | k + 1 => - sgP k
def eps : Nat → Int
  | 0 => 1
  | k + 1 => eps k * sgP k
theorem sgP_sq (k : Nat) : sgP k * sgP k = 1 := by
  induction k with
  | zero => rfl
  | succ k ih => simp only [sgP]; grind
theorem eps_sq (k : Nat) : eps k * eps k = 1 := by
  induction k with
  | zero => rfl
  | succ k ih => simp only [eps]; have := sgP_sq k; grind
/-- the leading minor -/
def DD (row : Nat → Nat → Int) (k : Nat) : Int := eps k * FF (RL row k) (List.range k)
/-- the minor of the leading rows with another row, and of the leading columns with another column -/
def phi (row : Nat → Nat → Int) (k : Nat) (r : Nat → Int) (j : Nat) : Int := eps (k + 1) * TT r (FF (RL row k)) (List.range k ++ [j])
theorem DD_succ (row : Nat → Nat → Int) (k : Nat) : DD row (k + 1) = phi row k (row k) k := by
  unfold DD phi
  rw [List.range_succ]
  rfl
theorem TT_tail {r : Nat → Int} {j : Nat} : ∀ (L : List Nat) (f : List Nat → Int), (∀ c, c ∈ L → r c = 0) → TT r f (L ++ [j]) = sgP L.length * (r j * f L) := by
  intro L
  induction L with
  | nil => intro f _; simp [TT, sgP]
  | cons c L ih =>
    intro f h
    show r c * f (L ++ [j]) - TT r (fun l => f (c :: l)) (L ++ [j]) = _
    rw [h c List.mem_cons_self, ih _ (fun x hx => h x (List.mem_cons_of_mem _ hx))]
    simp [sgP, Int.neg_mul]
theorem phi_tail {row : Nat → Nat → Int} {k j : Nat} {r : Nat → Int} (h : ∀ c, c < k → r c = 0) : phi row k r j = r j * DD row k := by
  unfold phi DD
  rw [TT_tail _ _ (fun c hc => h c (List.mem_range.1 hc)), List.length_range]
  simp only [eps]
  have := sgP_sq k
  grind
theorem phi_lin (row : Nat → Nat → Int) (k : Nat) (r s : Nat → Int) (a b : Int) (j : Nat) : phi row k (fun i => a * r i + b * s i) j = a * phi row k r j + b * phi row k s j := by
  unfold phi; rw [TT_row]; grind
theorem phi_old {row : Nat → Nat → Int} {k l : Nat} (h : l < k) (j : Nat) : phi row k (row l) j = 0 := by
  unfold phi; rw [FF_mem _ _ (RL_mem row h)]; simp
/-- a combination of the leading rows -/
def comb (row : Nat → Nat → Int) (c : Nat → Int) : Nat → Nat → Int
  | 0, _ => 0
  | k + 1, j => comb row c k j + c k * row k j
theorem phi_zero (row : Nat → Nat → Int) (k : Nat) (j : Nat) : phi row k (fun _ => 0) j = 0 := by
  have h := phi_lin row k (fun _ => 0) (fun _ => 0) 0 0 j
  simpa using h
theorem phi_comb (row : Nat → Nat → Int) (c : Nat → Int) (k j : Nat) : ∀ m, m ≤ k → phi row k (comb row c m) j = 0 := by
  intro m
  induction m with
  | zero => intro _; exact phi_zero row k j
  | succ m ih =>
    intro h
    have e : comb row c (m + 1) = fun i => 1 * comb row c m i + c m * row m i := by
      funext i; simp only [comb]; omega
    rw [e, phi_lin, ih (by omega), phi_old (by omega)]
    simp
/-- phi asks only the columns up to k -/
theorem TT_congr {r s : Nat → Int} : ∀ (cs : List Nat) (f : List Nat → Int), (∀ c, c ∈ cs → r c = s c) → TT r f cs = TT s f cs := by
  intro cs
  induction cs with
  | nil => intro f _; rfl
  | cons c cs ih =>
    intro f h
    simp only [TT]
    rw [h c List.mem_cons_self, ih _ (fun x hx => h x (List.mem_cons_of_mem _ hx))]
theorem phi_congr {row : Nat → Nat → Int} {k N : Nat} {r s : Nat → Int} {j : Nat} (hk : k ≤ N) (hj : j < N) (h : ∀ c, c < N → r c = s c) : phi row k r j = phi row k s j := by
  unfold phi
  rw [TT_congr _ _ (fun c hc => ?_)]
  rcases List.mem_append.1 hc with h1 | h1
  · exact h c (by have := List.mem_range.1 h1; omega)
  · rw [List.mem_singleton.1 h1]; exact h j hj
end Go.Proofs.Ytlnpipkhofhlnaa
namespace Go.Proofs.Ytlnpipkhofhlnaa
theorem comb_lin (row : Nat → Nat → Int) (c d : Nat → Int) (a b : Int) (j : Nat) : ∀ k, comb row (fun l => a * c l + b * d l) k j = a * comb row c k j + b * comb row d k j := by
  intro k
  induction k with
  | zero => simp [comb]
  | succ k ih => simp only [comb]; rw [ih]; grind
theorem comb_congr {row : Nat → Nat → Int} {c d : Nat → Int} {j : Nat} : ∀ k, (∀ l, l < k → c l = d l) → comb row c k j = comb row d k j := by
  intro k
  induction k with
  | zero => intro _; rfl
  | succ k ih => intro h; simp only [comb]; rw [ih (fun l hl => h l (by omega)), h k (by omega)]
/-- a row among the rest, after k steps -/
def AA (row : Nat → Nat → Int) (k i j : Nat) : Int := phi row k (row i) j
theorem AA_zero (row : Nat → Nat → Int) (i j : Nat) : AA row 0 i j = row i j := by
  simp [AA, phi, RL, FF, TT, eps, sgP]
/-- over a set -/
def onS (U : Nat → Bool) (f : Nat → Int) (N : Nat) : Int := sumZ (fun j => if U j then f j else 0) N
theorem onS_lin (U : Nat → Bool) (f g : Nat → Int) (a b : Int) (N : Nat) : onS U (fun j => a * f j + b * g j) N = a * onS U f N + b * onS U g N := by
  unfold onS
  rw [← sumZ_mul, ← sumZ_mul, ← sumZ_add]
  exact sumZ_congr (fun i _ => by show (if U i then _ else _) = _; split <;> simp)
theorem onS_congr {U : Nat → Bool} {f g : Nat → Int} {N : Nat} (h : ∀ j, j < N → U j = true → f j = g j) : onS U f N = onS U g N :=
  sumZ_congr (fun i hi => by
    show (if U i then f i else 0) = (if U i then g i else 0)
    cases e : U i
    · rfl
    · exact h i hi e)
def ins (U : Nat → Bool) (k : Nat) : Nat → Bool := fun j => if j = k then true else U j
theorem onS_ins {U : Nat → Bool} {k N : Nat} (f : Nat → Int) (hk : k < N) (hU : U k = false) : onS (ins U k) f N = onS U f N + f k := by
  unfold onS
  have e : sumZ (fun j => if j = k then f j else 0) N = f k := by
    rw [sumZ_one (f := fun j => if j = k then f j else 0) hk (fun i _ hne => if_neg hne)]; simp
  rw [← e, ← sumZ_add]
  refine sumZ_congr (fun i _ => ?_)
  show (if ins U k i then f i else 0) = (if U i then f i else 0) + (if i = k then f i else 0)
  unfold ins
  by_cases h : i = k
  · subst h; simp [hU]
  · simp [h]
theorem onS_single {k N : Nat} (f : Nat → Int) (hk : k < N) : onS (fun j => decide (j = k)) f N = f k := by
  unfold onS
  rw [sumZ_one (f := fun j => if decide (j = k) then f j else 0) hk (fun i _ hne => by simp [hne])]; simp
structure Inv (N : Nat) (row : Nat → Nat → Int) (d : Nat → Int) (k : Nat) : Prop where
  D0 : 0 < DD row k
  rel : ∀ i, k ≤ i → i < N → ∃ (q : Int) (c : Nat → Int), q ≠ 0 ∧ ∀ j, j < N → q * DD row k * row i j = comb row c k j + q * (if j < k then 0 else AA row k i j)
  off : ∀ i j, k ≤ i → i < N → k ≤ j → j < N → i ≠ j → AA row k i j ≤ 0
  nonneg : ∀ (U : Nat → Bool) i, (∀ j, U j = true → k ≤ j) → U i = true → i < N → 0 ≤ onS U (AA row k i) N
  pos : ∀ (U : Nat → Bool), (∀ j, U j = true → k ≤ j) → (∃ i, i < N ∧ U i = true) → ∃ i, i < N ∧ U i = true ∧ 0 < onS U (AA row k i) N
  diag : ∀ i, k ≤ i → i < N → AA row k i i ≤ DD row k * d i
theorem Inv.pivot {N : Nat} {row : Nat → Nat → Int} {d : Nat → Int} {k : Nat} (h : Inv N row d k) (hk : k < N) : 0 < AA row k k k := by
  obtain ⟨i, _, hU, hp⟩ := h.pos (fun j => decide (j = k)) (fun j hj => by have := of_decide_eq_true hj; omega) ⟨k, hk, by simp⟩
  obtain rfl : i = k := of_decide_eq_true hU
  rwa [onS_single _ hk] at hp
theorem Inv.exact {N : Nat} {row : Nat → Nat → Int} {d : Nat → Int} {k : Nat} (h : Inv N row d k) {i : Nat} (hki : k < i) (hi : i < N) :
    (∀ j, k < j → j < N → DD row k * AA row (k + 1) i j = AA row k i j * AA row k k k - AA row k i k * AA row k k j) ∧
    ∃ (q : Int) (c : Nat → Int), q ≠ 0 ∧ ∀ j, j < N → q * DD row (k + 1) * row i j = comb row c (k + 1) j + q * (if j < k + 1 then 0 else AA row (k + 1) i j) := by
  obtain ⟨qi, ci, hqi, ri⟩ := h.rel i (by omega) hi
  obtain ⟨qk, ck, hqk, rk⟩ := h.rel k (Nat.le_refl _) (by omega)
  have hp := h.pivot (by omega : k < N)
  have hD := h.D0
  have hD1 : DD row (k + 1) = AA row k k k := DD_succ row k
  generalize hP : AA row k k k = P at *
  generalize hI : AA row k i k = I at *
  generalize hDk : DD row k = D at *
  obtain ⟨wf, hw⟩ : ∃ wf : Nat → Int, wf = fun j => if j < k + 1 then 0 else AA row k i j * P - I * AA row k k j := ⟨_, rfl⟩
  obtain ⟨c, hc⟩ : ∃ c : Nat → Int, c = fun l => if l = k then qi * qk * D * I else (P * qk) * ci l + (- (I * qi)) * ck l := ⟨_, rfl⟩
  have hcomb : ∀ j, comb row c (k + 1) j = (P * qk) * comb row ci k j + (- (I * qi)) * comb row ck k j + qi * qk * D * I * row k j := fun j => by
    simp only [comb]
    rw [comb_congr (c := c) (d := fun l => (P * qk) * ci l + (- (I * qi)) * ck l) k (fun l hl => by rw [hc]; show (if l = k then _ else _) = _; rw [if_neg (by omega)]), comb_lin]
    rw [hc]; simp
  have heq : ∀ j, j < N → (qi * qk * D * P) * row i j = comb row c (k + 1) j + (qi * qk) * wf j := fun j hj => by
    rw [hcomb j, hw]
    have e1 := ri j hj
    have e2 := rk j hj
    show _ = _ + qi * qk * (if j < k + 1 then 0 else AA row k i j * P - I * AA row k k j)
    by_cases h1 : j < k
    · rw [if_pos h1] at e1 e2
      rw [if_pos (by omega)]
      grind
    · rw [if_neg h1] at e1 e2
      by_cases h2 : j = k
      · subst h2
        rw [if_pos (by omega)]
        rw [hI] at e1
        rw [hP] at e2
        grind
      · rw [if_neg (by omega)]
        grind
  have hne : qi * qk ≠ 0 := Int.mul_ne_zero hqi hqk
  have hex : ∀ j, k < j → j < N → D * AA row (k + 1) i j = AA row k i j * P - I * AA row k k j := fun j hj hjN => by
    have e0 : phi row (k + 1) (fun j => (qi * qk * D * P) * row i j + 0 * 0) j = phi row (k + 1) (fun j => 1 * comb row c (k + 1) j + (qi * qk) * wf j) j :=
      phi_congr (N := N) (by omega) hjN (fun c' hc' => by have := heq c' hc'; simp only [Int.one_mul]; omega)
    rw [phi_lin row (k + 1) (row i) (fun _ => 0), phi_lin, phi_comb _ _ _ _ _ (Nat.le_refl _), phi_tail (r := wf) (fun c' hc' => by rw [hw]; exact if_pos hc'), hD1] at e0
    have ew : wf j = AA row k i j * P - I * AA row k k j := by rw [hw]; exact if_neg (by omega)
    rw [ew] at e0
    have e1 : (qi * qk * P) * (D * AA row (k + 1) i j) = (qi * qk * P) * (AA row k i j * P - I * AA row k k j) := by
      unfold AA at e0 ⊢; grind
    exact Int.eq_of_mul_eq_mul_left (Int.mul_ne_zero hne (by omega)) e1
  refine ⟨hex, qi * qk * D, c, Int.mul_ne_zero hne (by omega), fun j hj => ?_⟩
  have e1 := heq j hj
  rw [hD1]
  by_cases h1 : j < k + 1
  · rw [if_pos h1]
    have : wf j = 0 := by rw [hw]; exact if_pos h1
    rw [this] at e1
    grind
  · rw [if_neg h1]
    have : wf j = D * AA row (k + 1) i j := by rw [hex j (by omega) hj, hw]; exact if_neg h1
    rw [this] at e1
    grind
theorem Inv.step {N : Nat} {row : Nat → Nat → Int} {d : Nat → Int} {k : Nat} (h : Inv N row d k) (hk : k < N) : Inv N row d (k + 1) := by
  have hp := h.pivot hk
  have hD1 : DD row (k + 1) = AA row k k k := DD_succ row k
  have hD := h.D0
  have hpos : ∀ x : Int, 0 < DD row k * x → 0 < x := fun x hx => Int.pos_of_mul_pos_right hx hD
  have hnn : ∀ x : Int, 0 ≤ DD row k * x → 0 ≤ x := fun x hx => Int.nonneg_of_mul_nonneg_right hx hD
  have hsum : ∀ (U : Nat → Bool) i, (∀ j, U j = true → k + 1 ≤ j) → k < i → i < N → DD row k * onS U (AA row (k + 1) i) N = AA row k k k * onS (ins U k) (AA row k i) N - AA row k i k * onS (ins U k) (AA row k k) N := fun U i hU hki hi => by
    have hUk : U k = false := by
      cases e : U k
      · rfl
      · have := hU k e; omega
    rw [onS_ins _ hk hUk, onS_ins _ hk hUk]
    have e1 : onS U (fun j => DD row k * AA row (k + 1) i j + 0 * 0) N = onS U (fun j => AA row k k k * AA row k i j + (- AA row k i k) * AA row k k j) N :=
      onS_congr (fun j hj hUj => by have := (h.exact hki hi).1 j (hU j hUj) hj; grind)
    rw [onS_lin U (AA row (k + 1) i) (fun _ => 0), onS_lin] at e1
    grind
  have hik : ∀ i, k < i → i < N → AA row k i k ≤ 0 := fun i hki hi => h.off i k (by omega) hi (Nat.le_refl _) hk (by omega)
  have hins : ∀ U : Nat → Bool, (∀ j, U j = true → k + 1 ≤ j) → ∀ j, ins U k j = true → k ≤ j := fun U hU j hj => by
    unfold ins at hj
    by_cases e : j = k
    · omega
    · rw [if_neg e] at hj; have := hU j hj; omega
  have hinsm : ∀ (U : Nat → Bool) i, U i = true → ins U k i = true := fun U i hi => by unfold ins; split <;> simp [hi]
  refine ⟨by omega, fun i hki hi => (h.exact hki hi).2, fun i j hi hiN hj hjN hij => ?_, fun U i hU hUi hi => ?_, fun U hU hne => ?_, fun i hi hiN => ?_⟩
  · have e := (h.exact (by omega : k < i) hiN).1 j (by omega) hjN
    have h1 := h.off i j (by omega) hiN (by omega) hjN hij
    have h2 := hik i (by omega) hiN
    have h3 := h.off k j (by omega) hk (by omega) hjN (by omega)
    have h4 : AA row k i j * AA row k k k ≤ 0 := by
      have := Int.mul_nonneg (show 0 ≤ - AA row k i j by omega) (show 0 ≤ AA row k k k by omega)
      rw [Int.neg_mul] at this; omega
    have h5 := Int.mul_nonneg (show 0 ≤ - AA row k i k by omega) (show 0 ≤ - AA row k k j by omega)
    rw [Int.neg_mul_neg] at h5
    have := hnn (- AA row (k + 1) i j) (by rw [Int.mul_neg]; omega)
    omega
  · have hki : k < i := hU i hUi
    refine hnn _ ?_
    rw [hsum U i hU hki hi]
    have h1 := h.nonneg (ins U k) i (hins U hU) (hinsm U i hUi) hi
    have h2 := h.nonneg (ins U k) k (hins U hU) (by simp [ins]) hk
    have h3 := Int.mul_nonneg (show 0 ≤ AA row k k k by omega) h1
    have h4 := Int.mul_nonneg (show 0 ≤ - AA row k i k by have := hik i hki hi; omega) h2
    rw [Int.neg_mul] at h4
    omega
  · have hUk : U k = false := by
      cases e : U k
      · rfl
      · have := hU k e; omega
    obtain ⟨i, hi, hUi, hs⟩ := h.pos (ins U k) (hins U hU) ⟨k, hk, by simp [ins]⟩
    have h2 := h.nonneg (ins U k) k (hins U hU) (by simp [ins]) hk
    have fin : ∀ i, i < N → U i = true → (0 < onS (ins U k) (AA row k i) N ∨ (AA row k i k < 0 ∧ 0 < onS (ins U k) (AA row k k) N)) → ∃ i, i < N ∧ U i = true ∧ 0 < onS U (AA row (k + 1) i) N := fun i hi hUi hor => by
      have hki : k < i := hU i hUi
      refine ⟨i, hi, hUi, hpos _ ?_⟩
      rw [hsum U i hU hki hi]
      have h1 := h.nonneg (ins U k) i (hins U hU) (hinsm U i hUi) hi
      have h3 := Int.mul_nonneg (show 0 ≤ AA row k k k by omega) h1
      have h4 := Int.mul_nonneg (show 0 ≤ - AA row k i k by have := hik i hki hi; omega) h2
      rw [Int.neg_mul] at h4
      rcases hor with hor | ⟨ho1, ho2⟩
      · have := Int.mul_pos hp hor; omega
      · have := Int.mul_pos (show 0 < - AA row k i k by omega) ho2
        rw [Int.neg_mul] at this; omega
    by_cases e : i = k
    · subst e
      obtain ⟨i2, hi2, hUi2, hs2⟩ := h.pos U (fun j hj => by have := hU j hj; omega) hne
      have hki : i < i2 := hU i2 hUi2
      have e2 := onS_ins (AA row i i2) hk hUk
      have h1 := hik i2 hki hi2
      by_cases e3 : AA row i i2 i = 0
      · exact fin i2 hi2 hUi2 (.inl (by omega))
      · exact fin i2 hi2 hUi2 (.inr ⟨by omega, hs⟩)
    · exact fin i hi (by unfold ins at hUi; rwa [if_neg e] at hUi) (.inl hs)
  · have e := (h.exact (by omega : k < i) hiN).1 i (by omega) hiN
    have h2 := hik i (by omega) hiN
    have h3 := h.off k i (by omega) hk (by omega) hiN (by omega)
    have h5 := Int.mul_nonneg (show 0 ≤ - AA row k i k by omega) (show 0 ≤ - AA row k k i by omega)
    rw [Int.neg_mul_neg] at h5
    have h6 := Int.mul_le_mul_of_nonneg_right (h.diag i (by omega) hiN) (show 0 ≤ AA row k k k by omega)
    rw [hD1]
    have := hnn (AA row k k k * d i - AA row (k + 1) i i) (by rw [Int.mul_sub]; grind)
    omega
end Go.Proofs.Ytlnpipkhofhlnaa
