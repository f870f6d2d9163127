/-
  Determinants by expansion, in plain numbers. No program is named here.
-/
import Derived.Test.YtlnpipkhofhlnaaOdo
namespace Go.Proofs.Ytlnpipkhofhlnaa
/-- expansion of a row over a list of columns -/
def TT (r : Nat → Int) : (List Nat → Int) → List Nat → Int
  | _, [] => 0
  | f, c :: cs => r c * f cs - TT r (fun l => f (c :: l)) cs
theorem TT_lin (r : Nat → Int) (a b : Int) : ∀ (cs : List Nat) (f g : List Nat → Int), TT r (fun l => a * f l + b * g l) cs = a * TT r f cs + b * TT r g cs := by
  intro cs
  induction cs with
  | nil => intro f g; simp [TT]
  | cons c cs ih =>
    intro f g
    simp only [TT]
    rw [ih (fun l => f (c :: l)) (fun l => g (c :: l))]
    grind
theorem TT_row (r s : Nat → Int) (a b : Int) : ∀ (cs : List Nat) (f : List Nat → Int), TT (fun j => a * r j + b * s j) f cs = a * TT r f cs + b * TT s f cs := by
  intro cs
  induction cs with
  | nil => intro f; simp [TT]
  | cons c cs ih =>
    intro f
    simp only [TT]
    rw [ih (fun l => f (c :: l))]
    grind
theorem TT_zero (r : Nat → Int) : ∀ (cs : List Nat) (f : List Nat → Int), (∀ l, f l = 0) → TT r f cs = 0 := by
  intro cs
  induction cs with
  | nil => intro f _; rfl
  | cons c cs ih =>
    intro f hf
    simp only [TT]
    rw [hf cs, ih _ (fun l => hf (c :: l))]
    simp
theorem TT_anti (a b : Nat → Int) : ∀ (cs : List Nat) (f : List Nat → Int), TT a (TT b f) cs = - TT b (TT a f) cs := by
  intro cs
  induction cs with
  | nil => intro f; simp [TT]
  | cons c cs ih =>
    intro f
    have h := ih (fun l => f (c :: l))
    have e1 : TT a (TT b f) (c :: cs) = a c * TT b f cs - TT a (fun l => b c * f l + (-1) * TT b (fun m => f (c :: m)) l) cs := by
      show a c * TT b f cs - TT a (fun l => b c * f l - TT b (fun m => f (c :: m)) l) cs = _
      congr 2
      funext l
      omega
    have e2 : TT b (TT a f) (c :: cs) = b c * TT a f cs - TT b (fun l => a c * f l + (-1) * TT a (fun m => f (c :: m)) l) cs := by
      show b c * TT a f cs - TT b (fun l => a c * f l - TT a (fun m => f (c :: m)) l) cs = _
      congr 2
      funext l
      omega
    rw [e1, e2, TT_lin, TT_lin]
    have h' : TT a (fun l => TT b (fun m => f (c :: m)) l) cs = - TT b (fun l => TT a (fun m => f (c :: m)) l) cs := h
    grind
/-- the determinant of rows, over a list of columns -/
def FF : List (Nat → Int) → List Nat → Int
  | [], _ => 1
  | r :: rs, l => TT r (FF rs) l
theorem FF_mem (v : Nat → Int) : ∀ (rs : List (Nat → Int)), v ∈ rs → ∀ cs, TT v (FF rs) cs = 0 := by
  intro rs
  induction rs with
  | nil => intro h; cases h
  | cons r rs ih =>
    intro h cs
    rcases List.mem_cons.1 h with rfl | h2
    · have := TT_anti v v cs (FF rs)
      show TT v (TT v (FF rs)) cs = 0
      omega
    · show TT v (TT r (FF rs)) cs = 0
      rw [TT_anti, TT_zero r cs _ (ih h2)]
      rfl
def RL (row : Nat → Nat → Int) : Nat → List (Nat → Int)
  | 0 => []
  | k + 1 => row k :: RL row k
theorem RL_mem (row : Nat → Nat → Int) {l k : Nat} (h : l < k) : row l ∈ RL row k := by
  induction k with
  | zero => omega
  | succ k ih =>
    simp only [RL]
    by_cases e : l = k
    · subst e; exact List.mem_cons_self
    · exact List.mem_cons_of_mem _ (ih (by omega))
def sgP : Nat → Int
  | 0 => 1
  | k + 1 => - sgP k
def eps : Nat → Int
  | 0 => 1
  | k + 1 => eps k * sgP k
theorem sgP_sq (k : Nat) : sgP k * sgP k = 1 := by
  induction k with
  | zero => rfl
  | succ k ih => simp only [sgP]; grind
theorem eps_sq (k : Nat) : eps k * eps k = 1 := by
  induction k with
  | zero => rfl
  | succ k ih => simp only [eps]; have := sgP_sq k; grind
/-- the leading minor -/
def DD (row : Nat → Nat → Int) (k : Nat) : Int := eps k * FF (RL row k) (List.range k)
/-- the minor of the leading rows with another row, and of the leading columns with another column -/
def phi (row : Nat → Nat → Int) (k : Nat) (r : Nat → Int) (j : Nat) : Int := eps (k + 1) * TT r (FF (RL row k)) (List.range k ++ [j])
theorem DD_succ (row : Nat → Nat → Int) (k : Nat) : DD row (k + 1) = phi row k (row k) k := by
  unfold DD phi
  rw [List.range_succ]
  rfl
theorem TT_tail {r : Nat → Int} {j : Nat} : ∀ (L : List Nat) (f : List Nat → Int), (∀ c, c ∈ L → r c = 0) → TT r f (L ++ [j]) = sgP L.length * (r j * f L) := by
  intro L
  induction L with
  | nil => intro f _; simp [TT, sgP]
  | cons c L ih =>
    intro f h
    show r c * f (L ++ [j]) - TT r (fun l => f (c :: l)) (L ++ [j]) = _
    rw [h c List.mem_cons_self, ih _ (fun x hx => h x (List.mem_cons_of_mem _ hx))]
    simp [sgP, Int.neg_mul]
theorem phi_tail {row : Nat → Nat → Int} {k j : Nat} {r : Nat → Int} (h : ∀ c, c < k → r c = 0) : phi row k r j = r j * DD row k := by
  unfold phi DD
  rw [TT_tail _ _ (fun c hc => h c (List.mem_range.1 hc)), List.length_range]
  simp only [eps]
  have := sgP_sq k
  grind
theorem phi_lin (row : Nat → Nat → Int) (k : Nat) (r s : Nat → Int) (a b : Int) (j : Nat) : phi row k (fun i => a * r i + b * s i) j = a * phi row k r j + b * phi row k s j := by
  unfold phi; rw [TT_row]; grind
theorem phi_old {row : Nat → Nat → Int} {k l : Nat} (h : l < k) (j : Nat) : phi row k (row l) j = 0 := by
  unfold phi; rw [FF_mem _ _ (RL_mem row h)]; simp
/-- a combination of the leading rows -/
def comb (row : Nat → Nat → Int) (c : Nat → Int) : Nat → Nat → Int
  | 0, _ => 0
  | k + 1, j => comb row c k j + c k * row k j
theorem phi_zero (row : Nat → Nat → Int) (k : Nat) (j : Nat) : phi row k (fun _ => 0) j = 0 := by
  have h := phi_lin row k (fun _ => 0) (fun _ => 0) 0 0 j
  simpa using h
theorem phi_comb (row : Nat → Nat → Int) (c : Nat → Int) (k j : Nat) : ∀ m, m ≤ k → phi row k (comb row c m) j = 0 := by
  intro m
  induction m with
  | zero => intro _; exact phi_zero row k j
  | succ m ih =>
    intro h
    have e : comb row c (m + 1) = fun i => 1 * comb row c m i + c m * row m i := by
      funext i; simp only [comb]; omega
    rw [e, phi_lin, ih (by omega), phi_old (by omega)]
    simp
/-- phi asks only the columns up to k -/
theorem TT_congr {r s : Nat → Int} : ∀ (cs : List Nat) (f : List Nat → Int), (∀ c, c ∈ cs → r c = s c) → TT r f cs = TT s f cs := by
  intro cs
  induction cs with
  | nil => intro f _; rfl
  | cons c cs ih =>
    intro f h
    simp only [TT]
    rw [h c List.mem_cons_self, ih _ (fun x hx => h x (List.mem_cons_of_mem _ hx))]
theorem phi_congr {row : Nat → Nat → Int} {k N : Nat} {r s : Nat → Int} {j : Nat} (hk : k ≤ N) (hj : j < N) (h : ∀ c, c < N → r c = s c) : phi row k r j = phi row k s j := by
  unfold phi
  rw [TT_congr _ _ (fun c hc => ?_)]
  rcases List.mem_append.1 hc with h1 | h1
  · exact h c (by have := List.mem_range.1 h1; omega)
  · rw [List.mem_singleton.1 h1]; exact h j hj
end Go.Proofs.Ytlnpipkhofhlnaa
