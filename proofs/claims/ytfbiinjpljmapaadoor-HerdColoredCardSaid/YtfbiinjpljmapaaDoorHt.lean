/-
  Package herd: what shift does, in plain numbers.
-/
import Derived.Test.YtfbiinjpljmapaaDoorHk
namespace Go.Proofs.YtfbiinjpljmapaaDoor
open Go.RowKit Go.Deep

def updZ (Z : Nat → Int) (i : Nat) (v : Int) : Nat → Int := fun t => if t = i then v else Z t
theorem sumZ_upd (Z : Nat → Int) (i : Nat) (v : Int) {n : Nat} (h : i < n) : sumZ (updZ Z i v) n = sumZ Z n + (v - Z i) := by
  induction n with
  | zero => omega
  | succ n ih =>
    simp only [sumZ]
    by_cases e : i = n
    · subst e
      have : ∀ k, k ≤ i → sumZ (updZ Z i v) k = sumZ Z k := fun k => by
        induction k with
        | zero => intro _; rfl
        | succ k ihk => intro hk; simp only [sumZ]; rw [ihk (by omega)]; unfold updZ; rw [if_neg (by omega)]
      rw [this i (Nat.le_refl _)]
      unfold updZ
      rw [if_pos rfl]
      omega
    · rw [ih (by omega)]
      unfold updZ
      rw [if_neg (fun h => e h.symm)]
      omega
/-- the weights when that of j is given to i -/
def unZ (Z : Nat → Int) (i j : Nat) : Nat → Int := updZ (updZ Z i (Z i + Z j)) j 0
theorem unZ_sum (Z : Nat → Int) {i j n : Nat} (hi : i < n) (hj : j < n) (hij : i ≠ j) : sumZ (unZ Z i j) n = sumZ Z n := by
  unfold unZ
  rw [sumZ_upd _ j _ hj, sumZ_upd _ i _ hi]
  have : updZ Z i (Z i + Z j) j = Z j := by unfold updZ; rw [if_neg (by omega)]
  rw [this]
  omega
structure GoodZ (Z : Nat → Int) (n : Nat) (M : Int) : Prop where
  pos : ∀ t, t < n → 0 ≤ Z t
  sum : sumZ Z n ≤ M
theorem GoodZ.le {Z : Nat → Int} {n : Nat} {M : Int} (h : GoodZ Z n M) {t : Nat} (ht : t < n) : Z t ≤ M := by
  have key : ∀ k, k ≤ n → (∀ t, t < k → Z t ≤ sumZ Z k) ∧ 0 ≤ sumZ Z k := fun k => by
    induction k with
    | zero => intro _; exact ⟨fun t h => by omega, Int.le_refl _⟩
    | succ k ih =>
      intro hk
      obtain ⟨h1, h2⟩ := ih (by omega)
      have h3 := h.pos k (by omega)
      simp only [sumZ]
      refine ⟨fun t ht => ?_, by omega⟩
      rcases Nat.lt_or_ge t k with h4 | h4
      · have := h1 t h4; omega
      · obtain rfl : t = k := by omega
        omega
  have h1 := (key n (Nat.le_refl _)).1 t ht
  have h2 := h.sum
  omega
theorem GoodZ.un {Z : Nat → Int} {n : Nat} {M : Int} (h : GoodZ Z n M) {i j : Nat} (hi : i < n) (hj : j < n) (hij : i ≠ j) : GoodZ (unZ Z i j) n M where
  pos := fun t ht => by
    have h1 := h.pos t ht
    have h2 := h.pos i hi
    have h3 := h.pos j hj
    unfold unZ updZ
    (try dsimp only)
    split
    · omega
    · split <;> omega
  sum := by rw [unZ_sum Z hi hj hij]; exact h.sum
theorem pullZ_bd {Z : Nat → Int} {n : Nat} {M : Int} (h : GoodZ Z n M) {l : List Nat} (hl : ∀ x, x ∈ l → x < n) : ∀ k, k ≤ l.length → 0 ≤ pullZ Z l k ∧ pullZ Z l k ≤ k * M := by
  intro k
  induction k with
  | zero => intro _; simp [pullZ]
  | succ k ih =>
    intro hk
    obtain ⟨h1, h2⟩ := ih (by omega)
    have h3 := hl _ (getD_mem (show k < l.length by omega))
    have h4 := h.pos _ h3
    have h5 := h.le h3
    simp only [pullZ]
    refine ⟨by omega, ?_⟩
    rw [show ((k + 1 : Nat) : Int) * M = k * M + M by rw [Int.natCast_succ, Int.add_mul, Int.one_mul]]
    omega
def pullH (Z : Nat → Int) (H : Nat → Nat) (i : Nat) : Int := pullZ Z (horsesL (H i) 9) (horsesL (H i) 9).length
def uniteZ (Z : Nat → Int) (H : Nat → Nat) (i j : Nat) : Nat → Int := if pullH Z H i < pullH Z H j then unZ Z j i else unZ Z i j
theorem GoodZ.unite {Z : Nat → Int} {n : Nat} {M : Int} (h : GoodZ Z n M) (H : Nat → Nat) {i j : Nat} (hi : i < n) (hj : j < n) (hij : i ≠ j) : GoodZ (uniteZ Z H i j) n M := by
  unfold uniteZ
  split
  · exact h.un hj hi (fun e => hij e.symm)
  · exact h.un hi hj hij
/-- one pair -/
def stepZ (H : Nat → Nat) (Z : Nat → Int) (i j : Nat) : Nat → Int := if (H i).testBit j = true then Z else if Z i = 0 then Z else if Z j = 0 then Z else uniteZ Z H i j
theorem GoodZ.step {Z : Nat → Int} {n : Nat} {M : Int} (h : GoodZ Z n M) (H : Nat → Nat) {i j : Nat} (hi : i < n) (hj : j < n) (hij : i ≠ j) : GoodZ (stepZ H Z i j) n M := by
  unfold stepZ
  split
  · exact h
  · split
    · exact h
    · split
      · exact h
      · exact h.unite H hi hj hij
/-- the first k pairs of a horse with later ones -/
def rowZ (H : Nat → Nat) (i : Nat) (Z : Nat → Int) : Nat → Nat → Int
  | 0 => Z
  | k + 1 => stepZ H (rowZ H i Z k) i (i + 1 + k)
theorem GoodZ.row {Z : Nat → Int} {n : Nat} {M : Int} (h : GoodZ Z n M) (H : Nat → Nat) {i : Nat} : ∀ k, i + 1 + k ≤ n → GoodZ (rowZ H i Z k) n M := by
  intro k
  induction k with
  | zero => intro _; exact h
  | succ k ih => intro hk; exact (ih (by omega)).step H (by omega) (by omega) (by omega)
/-- the pairs of the first i horses -/
def shiftZ (H : Nat → Nat) (n : Nat) (Z : Nat → Int) : Nat → Nat → Int
  | 0 => Z
  | i + 1 => rowZ H i (shiftZ H n Z i) (n - (i + 1))
theorem GoodZ.shift {Z : Nat → Int} {n : Nat} {M : Int} (h : GoodZ Z n M) (H : Nat → Nat) : ∀ i, i ≤ n → GoodZ (shiftZ H n Z i) n M := by
  intro i
  induction i with
  | zero => intro _; exact h
  | succ i ih => intro hi; exact (ih (by omega)).row H _ (by omega)
/-- all cells that hold an integer are kept -/
def IntKept (w w' : World) : Prop := ∀ a k x, w.cell? a = some (.int k x) → w'.cell? a = some (.int k x)
theorem IntKept.refl (w : World) : IntKept w w := fun _ _ _ h => h
theorem IntKept.trans {a b c : World} (h : IntKept a b) (g : IntKept b c) : IntKept a c := fun p k x e => g p k x (h p k x e)
theorem Kept.ints {w w' : World} (h : Kept w w') : IntKept w w' := fun _ _ _ e => h.cellSome e
theorem IntKept.set {w : World} {p : Addr} {a : Option Addr} {l c : Nat} (h : w.cell? p = some (.slice a l c)) (v : Value) : IntKept w (w.setCell p v) := fun q k x e => by
  by_cases e2 : p = q
  · subst e2
    rw [h] at e
    cases e
  · rw [World.cell?_setCell_other _ _ _ _ e2]
    exact e
theorem CellsAt.keptI {w w' : World} {v : Value} {n : Nat} {h : Nat → Value} (hc : CellsAt w v n h) (hi : ∀ i, i < n → ∃ k x, h i = .int k x) (k : IntKept w w') : CellsAt w' v n h := by
  obtain ⟨a, g, o, cap, e, ha, hcell⟩ := hc
  refine ⟨a, g, o, cap, e, ha, fun i hlt => ?_⟩
  have h6 := hcell i hlt
  obtain ⟨kk, x, hx⟩ := hi i hlt
  rw [hx] at h6 ⊢
  exact k _ _ _ h6
theorem NatAt.keptI {w w' : World} {v : Value} {z : Int} (h : NatAt w v z) (k : IntKept w w') : NatAt w' v z := by
  obtain ⟨n, D, ⟨a, cap, e1, e2, e3, e4, hc⟩, hL, hz, hn⟩ := h
  exact ⟨n, D, ⟨a, cap, e1, e2, e3, e4, CellsAt.keptI hc (fun i _ => ⟨_, _, rfl⟩) k⟩, hL, hz, hn⟩
/-- the row g holds n natural numbers -/
def PartsAt (w : World) (g N n : Nat) (Z : Nat → Int) : Prop := ∃ P : Nat → Value, w.rowIs g 106 N P ∧ n ≤ N ∧ ∀ t, t < n → NatAt w (P t) (Z t)
theorem PartsAt.kept {w w' : World} {g N n : Nat} {Z : Nat → Int} (h : PartsAt w g N n Z) (k : Kept w w') : PartsAt w' g N n Z := by
  obtain ⟨P, h1, h2, h4⟩ := h
  exact ⟨P, k.row h1, h2, fun t ht => (h4 t ht).kept k⟩
theorem PartsAt.list {w : World} {g N n cap : Nat} {Z : Nat → Int} (h : PartsAt w g N n Z) : NatsL w (.slice (some ⟨g, 0, none⟩) n cap) n Z := by
  obtain ⟨P, h1, h2, h4⟩ := h
  exact ⟨P, ⟨_, g, 0, cap, rfl, fun _ => rfl, fun i hi => by rw [Nat.zero_add]; exact h1.cell (by omega)⟩, h4⟩
theorem natAt_slice {w : World} {v : Value} {z : Int} (h : NatAt w v z) : ∃ a k c, v = .slice a k c := by
  obtain ⟨n, D, ⟨a, cap, e1, _⟩, _⟩ := h
  exact ⟨a, n, cap, e1⟩
theorem PartsAt.ints {w : World} {g N n : Nat} {Z : Nat → Int} (h : PartsAt w g N n Z) (i : Nat) (hi : i < n) (v : Value) : IntKept w (w.setCell ⟨g, i, none⟩ v) := by
  obtain ⟨P, h1, h2, h4⟩ := h
  obtain ⟨a, k, c, e⟩ := natAt_slice (h4 i hi)
  have := h1.cell (show i < N by omega)
  rw [e] at this
  exact IntKept.set this v
/-- one number is stored -/
theorem PartsAt.set {w : World} {g N n : Nat} {Z : Nat → Int} (h : PartsAt w g N n Z) (i : Nat) (hi : i < n) {v : Value} {z : Int} (hv : NatAt w v z) : PartsAt (w.setCell ⟨g, i, none⟩ v) g N n (updZ Z i z) := by
  have hI := h.ints i hi v
  obtain ⟨P, h1, h2, h4⟩ := h
  refine ⟨fun t => if t = i then v else P t, h1.set i _, h2, fun t ht => ?_⟩
  unfold updZ
  (try dsimp only)
  split
  · exact hv.keptI hI
  · exact (h4 t ht).keptI hI
end Go.Proofs.YtfbiinjpljmapaaDoor
