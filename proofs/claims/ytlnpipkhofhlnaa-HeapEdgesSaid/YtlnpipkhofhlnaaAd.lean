/-
  The adjoint of a matrix, by expansion; equivalent heaps without forbidden sets are the same. No program is named here.
-/
import Derived.Test.YtlnpipkhofhlnaaNf
namespace Go.Proofs.Ytlnpipkhofhlnaa
open Go.RowKit

theorem sumZ_head (f : Nat → Int) (n : Nat) : sumZ f (n + 1) = f 0 + sumZ (fun i => f (i + 1)) n := sumZ_shift f n
theorem TT_sum (r : Nat → Int) : ∀ (cs : List Nat) (f : List Nat → Int), TT r f cs = sumZ (fun i => sgP i * (r (cs.getD i 0) * f (cs.eraseIdx i))) cs.length := by
  intro cs
  induction cs with
  | nil => intro f; rfl
  | cons c cs ih =>
    intro f
    simp only [TT, List.length_cons]
    rw [sumZ_shift, ih (fun l => f (c :: l))]
    have e : sumZ (fun i => sgP (i + 1) * (r ((c :: cs).getD (i + 1) 0) * f ((c :: cs).eraseIdx (i + 1)))) cs.length = (-1) * sumZ (fun i => sgP i * (r (cs.getD i 0) * f (c :: cs.eraseIdx i))) cs.length := by
      rw [← sumZ_mul]
      exact sumZ_congr (fun i _ => by
        show sgP (i + 1) * (r ((c :: cs).getD (i + 1) 0) * f ((c :: cs).eraseIdx (i + 1))) = -1 * (sgP i * (r (cs.getD i 0) * f (c :: cs.eraseIdx i)))
        simp only [sgP, List.getD_cons_succ, List.eraseIdx_cons_succ]
        rw [Int.neg_mul, Int.neg_mul, Int.one_mul])
    rw [e]
    simp [sgP]
    omega
theorem TT_scale (r : Nat → Int) (a : Int) (cs : List Nat) (f : List Nat → Int) : TT r (fun l => a * f l) cs = a * TT r f cs := by
  have := TT_lin r a 0 cs f f
  have e : (fun l => a * f l + 0 * f l) = fun l => a * f l := by funext l; omega
  rw [e] at this
  rw [this]; omega
theorem FF_move (v : Nat → Int) (post : List (Nat → Int)) : ∀ (pre : List (Nat → Int)) (cs : List Nat), FF (pre ++ v :: post) cs = sgP pre.length * FF (v :: (pre ++ post)) cs := by
  intro pre
  induction pre with
  | nil => intro cs; simp [sgP]
  | cons p pre ih =>
    intro cs
    show TT p (FF (pre ++ v :: post)) cs = sgP (pre.length + 1) * TT v (TT p (FF (pre ++ post))) cs
    have e : FF (pre ++ v :: post) = fun l => sgP pre.length * FF (v :: (pre ++ post)) l := funext (fun l => ih l)
    rw [e, TT_scale]
    have h := TT_anti p v cs (FF (pre ++ post))
    show sgP pre.length * TT p (TT v (FF (pre ++ post))) cs = _
    rw [h]
    simp only [sgP]
    rw [Int.neg_mul, Int.mul_neg]
/-- the rows in order -/
def OL (row : Nat → Nat → Int) (k : Nat) : List (Nat → Int) := (List.range k).map row
theorem OL_len (row : Nat → Nat → Int) (k : Nat) : (OL row k).length = k := by simp [OL]
theorem OL_succ (row : Nat → Nat → Int) (k : Nat) : OL row (k + 1) = OL row k ++ [row k] := by simp [OL, List.range_succ]
theorem FF_order (row : Nat → Nat → Int) : ∀ (k : Nat) (cs : List Nat), FF (OL row k) cs = eps k * FF (RL row k) cs := by
  intro k
  induction k with
  | zero => intro cs; rfl
  | succ k ih =>
    intro cs
    rw [OL_succ, FF_move, OL_len, List.append_nil]
    have e : FF (OL row k) = fun l => eps k * FF (RL row k) l := funext ih
    show sgP k * TT (row k) (FF (OL row k)) cs = eps k * sgP k * TT (row k) (FF (RL row k)) cs
    rw [e, TT_scale]
    grind
/-- the determinant, by expansion of the first row -/
def detR (row : Nat → Nat → Int) (n : Nat) : Int := FF (OL row n) (List.range n)
theorem detR_DD (row : Nat → Nat → Int) (n : Nat) : detR row n = DD row n := FF_order row n _
def adj (row : Nat → Nat → Int) (n i j : Nat) : Int := sgP i * sgP j * FF ((OL row n).eraseIdx j) ((List.range n).eraseIdx i)
theorem OL_split (row : Nat → Nat → Int) {n j : Nat} (hj : j < n) : ∃ pre post, OL row n = pre ++ row j :: post ∧ (OL row n).eraseIdx j = pre ++ post ∧ pre.length = j := by
  refine ⟨(OL row n).take j, (OL row n).drop (j + 1), ?_, ?_, by simp [OL_len]; omega⟩
  · have h : (OL row n)[j]? = some (row j) := by simp [OL, hj]
    obtain ⟨h1, h2⟩ := List.getElem?_eq_some_iff.1 h
    rw [← h2, ← List.drop_eq_getElem_cons h1, List.take_append_drop]
  · exact List.eraseIdx_eq_take_drop_succ _ _
theorem mul_adj (row : Nat → Nat → Int) {n k j : Nat} (hk : k < n) (hj : j < n) : sumZ (fun i => row k i * adj row n i j) n = if k = j then detR row n else 0 := by
  have h1 := TT_sum (row k) (List.range n) (FF ((OL row n).eraseIdx j))
  rw [List.length_range] at h1
  have h2 : sumZ (fun i => row k i * adj row n i j) n = sgP j * TT (row k) (FF ((OL row n).eraseIdx j)) (List.range n) := by
    rw [h1, ← sumZ_mul]
    refine sumZ_congr (fun i hi => ?_)
    show row k i * (sgP i * sgP j * FF ((OL row n).eraseIdx j) ((List.range n).eraseIdx i)) = sgP j * (sgP i * (row k ((List.range n).getD i 0) * FF ((OL row n).eraseIdx j) ((List.range n).eraseIdx i)))
    rw [show (List.range n).getD i 0 = i by simp [List.getD, hi]]
    grind
  rw [h2]
  obtain ⟨pre, post, e1, e2, e3⟩ := OL_split row hj
  rw [e2]
  by_cases e : k = j
  · subst e
    rw [if_pos rfl]
    unfold detR
    rw [e1, FF_move, e3]; rfl
  · rw [if_neg e, FF_mem]
    · simp
    · have h3 : (OL row n)[k]? = some (row k) := by simp [OL, hk]
      have h4 : (pre ++ post)[if k < j then k else k - 1]? = some (row k) := by
        rw [e1] at h3
        by_cases h5 : k < j
        · rw [if_pos h5]
          rw [List.getElem?_append_left (by omega)] at h3 ⊢
          exact h3
        · rw [if_neg h5]
          rw [List.getElem?_append_right (by omega)] at h3 ⊢
          rw [show k - pre.length = (k - 1 - pre.length) + 1 by omega, List.getElem?_cons_succ] at h3
          exact h3
      exact List.mem_of_getElem? h4

/-! ### topplings of any number -/
/-- what the vertices lose when each topples so often -/
def lossX (D : Nat → Nat) (J : Nat → Nat → Nat) (N : Nat) (x : Nat → Int) (i : Nat) : Int := sumZ (fun l => lapM D J i l * x l) N
theorem loss_row {N : Nat} {D : Nat → Nat} {J : Nat → Nat → Nat} (ok : YardOk (N + 1) D J) (x : Nat → Int) {i : Nat} (hi : i < N) : lossX D J N x i = (D (i + 1) : Int) * x i - sumZ (fun l => (J (i + 1) (l + 1) : Int) * x l) N := by
  unfold lossX
  have h1 := sumZ_one (f := fun l => if l = i then (D (i + 1) : Int) * x i else 0) hi (fun l _ hne => if_neg hne)
  simp only [if_true] at h1
  have h2 : sumZ (fun l => lapM D J i l * x l) N + sumZ (fun l => (J (i + 1) (l + 1) : Int) * x l) N = sumZ (fun l => if l = i then (D (i + 1) : Int) * x i else 0) N := by
    rw [← sumZ_add]
    refine sumZ_congr (fun l hl => ?_)
    show lapM D J i l * x l + (J (i + 1) (l + 1) : Int) * x l = _
    unfold lapM
    by_cases e : i = l
    · subst e; rw [if_pos rfl, if_pos rfl, ok.J0 (i + 1) (by omega)]; simp
    · rw [if_neg e, if_neg (Ne.symm e), ← Int.add_mul, Int.add_left_neg, Int.zero_mul]
  omega
theorem top_at (x : Nat → Int) : ∀ N, 1 ≤ N → ∃ i, i < N ∧ ∀ j, j < N → x j ≤ x i := by
  intro N
  induction N with
  | zero => intro h; omega
  | succ N ih =>
    intro _
    by_cases e : N = 0
    · exact ⟨0, by omega, fun j hj => by rw [show j = 0 by omega]; exact Int.le_refl _⟩
    · obtain ⟨i, hi, h⟩ := ih (by omega)
      by_cases e2 : x i ≤ x N
      · exact ⟨N, by omega, fun j hj => by
          by_cases e3 : j = N
          · rw [e3]; exact Int.le_refl _
          · exact Int.le_trans (h j (by omega)) e2⟩
      · exact ⟨i, by omega, fun j hj => by
          by_cases e3 : j = N
          · rw [e3]; omega
          · exact h j (by omega)⟩
theorem uniq_le {N : Nat} {D : Nat → Nat} {J : Nat → Nat → Nat} {f g x : Nat → Int} (ok : YardOk (N + 1) D J) (hf : NF N J f) (hg : ∀ i, i < N → g i < D (i + 1)) (he : ∀ i, i < N → f i = g i - lossX D J N x i) : ∀ i, i < N → x i ≤ 0 := by
  intro i0 hi0
  obtain ⟨i1, hi1, hmax⟩ := top_at x N (by omega)
  have h0 := hmax i0 hi0
  rcases Int.lt_or_le 0 (x i1) with hpos | hle
  · exfalso
    obtain ⟨M, hM⟩ : ∃ M, M = x i1 := ⟨_, rfl⟩
    rw [← hM] at hmax hpos
    obtain ⟨i, hi, hUi, hin⟩ := hf (fun j => decide (x j = M)) ⟨i1, hi1, by simp [hM]⟩
    have hxi : x i = M := by simpa using hUi
    have h1 := he i hi
    have h2 := hg i hi
    rw [loss_row ok x hi, hxi] at h1
    have h3 := ok.row (v := i + 1) (by omega)
    have h4 : sumZ (fun l => (J (i + 1) (l + 1) : Int) * x l) N ≤ (M - 1) * sumZ (fun l => (J (i + 1) (l + 1) : Int)) N + inS J N (fun j => decide (x j = M)) i := by
      unfold inS onS
      rw [← sumZ_mul, ← sumZ_add]
      refine sumZ_le (fun l hl => ?_)
      show (J (i + 1) (l + 1) : Int) * x l ≤ (M - 1) * (J (i + 1) (l + 1) : Int) + (if decide (x l = M) = true then (J (i + 1) (l + 1) : Int) else 0)
      have hx := hmax l hl
      by_cases e : x l = M
      · rw [if_pos (by simpa using e), e, Int.sub_mul, Int.mul_comm]; omega
      · rw [if_neg (by simpa using e), Int.mul_comm]
        have : x l * (J (i + 1) (l + 1) : Int) ≤ (M - 1) * (J (i + 1) (l + 1) : Int) := Int.mul_le_mul_of_nonneg_right (by omega) (by omega)
        omega
    obtain ⟨S, hS⟩ : ∃ S, S = sumZ (fun l => (J (i + 1) (l + 1) : Int)) N := ⟨_, rfl⟩
    rw [← hS] at h3 h4
    have h5 : (D (i + 1) : Int) * M = (M - 1) * S + (M - 1) * (J (i + 1) 0 : Int) + (D (i + 1) : Int) := by rw [h3]; grind
    have h6 : 0 ≤ (M - 1) * (J (i + 1) 0 : Int) := Int.mul_nonneg (by omega) (by omega)
    omega
  · omega
theorem loss_neg {N : Nat} (D : Nat → Nat) (J : Nat → Nat → Nat) (x : Nat → Int) (i : Nat) : lossX D J N (fun l => - x l) i = - lossX D J N x i := by
  have h : lossX D J N (fun l => - x l) i = (-1) * lossX D J N x i := by
    unfold lossX
    rw [← sumZ_mul]
    exact sumZ_congr (fun l _ => by show _ * - x l = -1 * (_ * x l); rw [Int.mul_neg, Int.neg_mul, Int.one_mul])
  rw [h]; omega
/-- equivalent heaps that are stable and have no forbidden set are the same -/
theorem uniq {N : Nat} {D : Nat → Nat} {J : Nat → Nat → Nat} {f g x : Nat → Int} (ok : YardOk (N + 1) D J) (hf : NF N J f) (hg : NF N J g) (hfs : ∀ i, i < N → f i < D (i + 1)) (hgs : ∀ i, i < N → g i < D (i + 1))
    (he : ∀ i, i < N → f i = g i - lossX D J N x i) : ∀ i, i < N → x i = 0 := by
  intro i hi
  have h1 := uniq_le ok hf hgs he i hi
  have h2 := uniq_le (x := fun l => - x l) ok hg hfs (fun j hj => by rw [loss_neg, he j hj]; omega) i hi
  skip
  omega
theorem loss_inj {N : Nat} {D : Nat → Nat} {J : Nat → Nat → Nat} {p : Nat → Nat} {x : Nat → Int} (ok : YardOk (N + 1) D J) (hp : Ranked (N + 1) J p) (h : ∀ i, i < N → lossX D J N x i = 0) : ∀ i, i < N → x i = 0 := by
  have hn : NF N J (fun i => (D (i + 1) : Int) - 1) := nf_top ok hp (fun i _ => Int.le_refl _)
  exact uniq ok hn hn (fun i _ => by omega) (fun i _ => by omega) (fun i hi => by rw [h i hi]; omega)
theorem sumZ_swap (f : Nat → Nat → Int) (a b : Nat) : sumZ (fun i => sumZ (fun j => f i j) b) a = sumZ (fun j => sumZ (fun i => f i j) a) b := by
  induction a with
  | zero =>
    show (0 : Int) = sumZ (fun j => 0) b
    have : sumZ (fun _ => (0 : Int)) b = 0 := by
      have h := sumZ_mul (fun _ => (0 : Int)) 0 b
      simpa using h
    rw [this]
  | succ a ih => simp only [sumZ]; rw [ih, ← sumZ_add]
/-- the adjoint takes topplings to the determinant times how often each vertex topples -/
theorem adj_loss {N : Nat} {D : Nat → Nat} {J : Nat → Nat → Nat} {p : Nat → Nat} (ok : YardOk (N + 1) D J) (hp : Ranked (N + 1) J p) (x : Nat → Int) : ∀ i, i < N → sumZ (fun j => adj (lapM D J) N i j * lossX D J N x j) N = detR (lapM D J) N * x i := by
  have h := loss_inj (x := fun i => sumZ (fun j => adj (lapM D J) N i j * lossX D J N x j) N - detR (lapM D J) N * x i) ok hp (fun k hk => by
    unfold lossX
    have e1 : sumZ (fun l => lapM D J k l * (sumZ (fun j => adj (lapM D J) N l j * sumZ (fun l => lapM D J j l * x l) N) N - detR (lapM D J) N * x l)) N
        = sumZ (fun l => sumZ (fun j => lapM D J k l * adj (lapM D J) N l j * lossX D J N x j) N) N + (- detR (lapM D J) N) * sumZ (fun l => lapM D J k l * x l) N := by
      rw [← sumZ_mul, ← sumZ_add]
      refine sumZ_congr (fun l _ => ?_)
      show lapM D J k l * (sumZ (fun j => adj (lapM D J) N l j * lossX D J N x j) N - detR (lapM D J) N * x l) = _
      have e2 : sumZ (fun j => lapM D J k l * adj (lapM D J) N l j * lossX D J N x j) N = lapM D J k l * sumZ (fun j => adj (lapM D J) N l j * lossX D J N x j) N := by
        rw [← sumZ_mul]; exact sumZ_congr (fun j _ => Int.mul_assoc _ _ _)
      skip
      rw [e2]; grind
    rw [e1, sumZ_swap (fun l j => lapM D J k l * adj (lapM D J) N l j * lossX D J N x j)]
    have e3 : sumZ (fun j => sumZ (fun l => lapM D J k l * adj (lapM D J) N l j * lossX D J N x j) N) N = sumZ (fun j => if j = k then detR (lapM D J) N * lossX D J N x k else 0) N := by
      refine sumZ_congr (fun j hj => ?_)
      have e4 : sumZ (fun l => lapM D J k l * adj (lapM D J) N l j * lossX D J N x j) N = lossX D J N x j * sumZ (fun l => lapM D J k l * adj (lapM D J) N l j) N := by
        rw [← sumZ_mul]; exact sumZ_congr (fun l _ => Int.mul_comm _ _)
      skip
      rw [e4, mul_adj _ hk hj]
      by_cases e : k = j
      · subst e; rw [if_pos rfl, if_pos rfl, Int.mul_comm]
      · rw [if_neg e, if_neg (Ne.symm e)]; simp
    rw [e3, sumZ_one (f := fun j => if j = k then detR (lapM D J) N * lossX D J N x k else 0) hk (fun j _ hne => if_neg hne), if_pos rfl]
    show detR (lapM D J) N * lossX D J N x k + - detR (lapM D J) N * lossX D J N x k = 0
    rw [Int.neg_mul]; omega)
  intro i hi
  have := h i hi
  skip
  omega
/-- bars at one vertex, as many as the determinant, are topplings -/
theorem loss_adj {N : Nat} {D : Nat → Nat} {J : Nat → Nat → Nat} {i : Nat} (hi : i < N) (j : Nat) (hj : j < N) : lossX D J N (fun l => adj (lapM D J) N l j) i = if i = j then detR (lapM D J) N else 0 := mul_adj _ hi hj
/-- such bars at every vertex -/
theorem loss_all {N : Nat} {D : Nat → Nat} {J : Nat → Nat → Nat} {i : Nat} (hi : i < N) (t : Int) : lossX D J N (fun l => t * sumZ (fun j => adj (lapM D J) N l j) N) i = t * detR (lapM D J) N := by
  unfold lossX
  have e1 : sumZ (fun l => lapM D J i l * (t * sumZ (fun j => adj (lapM D J) N l j) N)) N = t * sumZ (fun l => sumZ (fun j => lapM D J i l * adj (lapM D J) N l j) N) N := by
    rw [← sumZ_mul]
    refine sumZ_congr (fun l _ => ?_)
    skip
    rw [sumZ_mul]; grind
  rw [e1, sumZ_swap (fun l j => lapM D J i l * adj (lapM D J) N l j)]
  have e2 : sumZ (fun j => sumZ (fun l => lapM D J i l * adj (lapM D J) N l j) N) N = sumZ (fun j => if j = i then detR (lapM D J) N else 0) N := sumZ_congr (fun j hj => by
    skip
    rw [mul_adj _ hi hj]
    by_cases e : i = j
    · rw [if_pos e, if_pos e.symm]
    · rw [if_neg e, if_neg (Ne.symm e)])
  rw [e2, sumZ_one (f := fun j => if j = i then detR (lapM D J) N else 0) hi (fun j _ hne => if_neg hne), if_pos rfl]
end Go.Proofs.Ytlnpipkhofhlnaa
