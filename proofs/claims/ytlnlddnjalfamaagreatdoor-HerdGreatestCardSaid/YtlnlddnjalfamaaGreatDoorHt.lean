/-
  Package herd: what shift does, in plain numbers.
  Package herd: unite.
  Package herd: shift.
-/
import Derived.Test.YtlnlddnjalfamaaGreatDoorHk
import Derived.Test.YtlnlddnjalfamaaGreatDoorTa
import Derived.Deep.RegionWith
import Derived.RegionTactic
import Derived.Test.YtlnlddnjalfamaaGreatDoorHc
namespace Go.Proofs.YtlnlddnjalfamaaGreatDoor
open Go.RowKit Go.Deep

def updZ (Z : Nat → Int) (i : Nat) (v : Int) : Nat → Int := fun t => if t = i then v else Z t
theorem sumZ_upd (Z : Nat → Int) (i : Nat) (v : Int) {n : Nat} (h : i < n) : sumZ (updZ Z i v) n = sumZ Z n + (v - Z i) := by
  induction n with
  | zero => omega
  | succ n ih =>
    simp only [sumZ]
    by_cases e : i = n
    · subst e
      have : ∀ k, k ≤ i → sumZ (updZ Z i v) k = sumZ Z k := fun k => by
        induction k with
        | zero => intro _; rfl
        | succ k ihk => intro hk; simp only [sumZ]; rw [ihk (by omega)]; unfold updZ; rw [if_neg (by omega)]
      rw [this i (Nat.le_refl _)]
      unfold updZ
      rw [if_pos rfl]
      omega
    · rw [ih (by omega)]
      unfold updZ
      rw [if_neg (fun h => e h.symm)]
      omega
/-- the weights when that of j is given to i -/
def unZ (Z : Nat → Int) (i j : Nat) : Nat → Int := updZ (updZ Z i (Z i + Z j)) j 0
theorem unZ_sum (Z : Nat → Int) {i j n : Nat} (hi : i < n) (hj : j < n) (hij : i ≠ j) : sumZ (unZ Z i j) n = sumZ Z n := by
  unfold unZ
  rw [sumZ_upd _ j _ hj, sumZ_upd _ i _ hi]
  have : updZ Z i (Z i + Z j) j = Z j := by unfold updZ; rw [if_neg (by omega)]
  rw [this]
  omega
structure GoodZ (Z : Nat → Int) (n : Nat) (M : Int) : Prop where
  pos : ∀ t, t < n → 0 ≤ Z t
  sum : sumZ Z n ≤ M
theorem GoodZ.le {Z : Nat → Int} {n : Nat} {M : Int} (h : GoodZ Z n M) {t : Nat} (ht : t < n) : Z t ≤ M := by
  have key : ∀ k, k ≤ n → (∀ t, t < k → Z t ≤ sumZ Z k) ∧ 0 ≤ sumZ Z k := fun k => by
    induction k with
    | zero => intro _; exact ⟨fun t h => by omega, Int.le_refl _⟩
    | succ k ih =>
      intro hk
      obtain ⟨h1, h2⟩ := ih (by omega)
      have h3 := h.pos k (by omega)
      simp only [sumZ]
      refine ⟨fun t ht => ?_, by omega⟩
      rcases Nat.lt_or_ge t k with h4 | h4
      · have := h1 t h4; omega
      · obtain rfl : t = k := by omega
        omega
  have h1 := (key n (Nat.le_refl _)).1 t ht
  have h2 := h.sum
  omega
theorem GoodZ.un {Z : Nat → Int} {n : Nat} {M : Int} (h : GoodZ Z n M) {i j : Nat} (hi : i < n) (hj : j < n) (hij : i ≠ j) : GoodZ (unZ Z i j) n M where
  pos := fun t ht => by
    have h1 := h.pos t ht
    have h2 := h.pos i hi
    have h3 := h.pos j hj
    unfold unZ updZ
    (try dsimp only)
    split
    · omega
    · split <;> omega
  sum := by rw [unZ_sum Z hi hj hij]; exact h.sum
theorem pullZ_bd {Z : Nat → Int} {n : Nat} {M : Int} (h : GoodZ Z n M) {l : List Nat} (hl : ∀ x, x ∈ l → x < n) : ∀ k, k ≤ l.length → 0 ≤ pullZ Z l k ∧ pullZ Z l k ≤ k * M := by
  intro k
  induction k with
  | zero => intro _; simp [pullZ]
  | succ k ih =>
    intro hk
    obtain ⟨h1, h2⟩ := ih (by omega)
    have h3 := hl _ (getD_mem (show k < l.length by omega))
    have h4 := h.pos _ h3
    have h5 := h.le h3
    simp only [pullZ]
    refine ⟨by omega, ?_⟩
    rw [show ((k + 1 : Nat) : Int) * M = k * M + M by rw [Int.natCast_succ, Int.add_mul, Int.one_mul]]
    omega
def pullH (Z : Nat → Int) (H : Nat → Nat) (i : Nat) : Int := pullZ Z (horsesL (H i) 9) (horsesL (H i) 9).length
def uniteZ (Z : Nat → Int) (H : Nat → Nat) (i j : Nat) : Nat → Int := if pullH Z H i < pullH Z H j then unZ Z j i else unZ Z i j
theorem GoodZ.unite {Z : Nat → Int} {n : Nat} {M : Int} (h : GoodZ Z n M) (H : Nat → Nat) {i j : Nat} (hi : i < n) (hj : j < n) (hij : i ≠ j) : GoodZ (uniteZ Z H i j) n M := by
  unfold uniteZ
  split
  · exact h.un hj hi (fun e => hij e.symm)
  · exact h.un hi hj hij
/-- one pair -/
def stepZ (H : Nat → Nat) (Z : Nat → Int) (i j : Nat) : Nat → Int := if (H i).testBit j = true then Z else if Z i = 0 then Z else if Z j = 0 then Z else uniteZ Z H i j
theorem GoodZ.step {Z : Nat → Int} {n : Nat} {M : Int} (h : GoodZ Z n M) (H : Nat → Nat) {i j : Nat} (hi : i < n) (hj : j < n) (hij : i ≠ j) : GoodZ (stepZ H Z i j) n M := by
  unfold stepZ
  split
  · exact h
  · split
    · exact h
    · split
      · exact h
      · exact h.unite H hi hj hij
/-- the first k pairs of a horse with later ones -/
def rowZ (H : Nat → Nat) (i : Nat) (Z : Nat → Int) : Nat → Nat → Int
  | 0 => Z
  | k + 1 => stepZ H (rowZ H i Z k) i (i + 1 + k)
theorem GoodZ.row {Z : Nat → Int} {n : Nat} {M : Int} (h : GoodZ Z n M) (H : Nat → Nat) {i : Nat} : ∀ k, i + 1 + k ≤ n → GoodZ (rowZ H i Z k) n M := by
  intro k
  induction k with
  | zero => intro _; exact h
  | succ k ih => intro hk; exact (ih (by omega)).step H (by omega) (by omega) (by omega)
/-- the pairs of the first i horses -/
def shiftZ (H : Nat → Nat) (n : Nat) (Z : Nat → Int) : Nat → Nat → Int
  | 0 => Z
  | i + 1 => rowZ H i (shiftZ H n Z i) (n - (i + 1))
theorem GoodZ.shift {Z : Nat → Int} {n : Nat} {M : Int} (h : GoodZ Z n M) (H : Nat → Nat) : ∀ i, i ≤ n → GoodZ (shiftZ H n Z i) n M := by
  intro i
  induction i with
  | zero => intro _; exact h
  | succ i ih => intro hi; exact (ih (by omega)).row H _ (by omega)
/-- all cells that hold an integer are kept -/
def IntKept (w w' : World) : Prop := ∀ a k x, w.cell? a = some (.int k x) → w'.cell? a = some (.int k x)
theorem IntKept.refl (w : World) : IntKept w w := fun _ _ _ h => h
theorem IntKept.trans {a b c : World} (h : IntKept a b) (g : IntKept b c) : IntKept a c := fun p k x e => g p k x (h p k x e)
theorem Kept.ints {w w' : World} (h : Kept w w') : IntKept w w' := fun _ _ _ e => h.cellSome e
theorem IntKept.set {w : World} {p : Addr} {a : Option Addr} {l c : Nat} (h : w.cell? p = some (.slice a l c)) (v : Value) : IntKept w (w.setCell p v) := fun q k x e => by
  by_cases e2 : p = q
  · subst e2
    rw [h] at e
    cases e
  · rw [World.cell?_setCell_other _ _ _ _ e2]
    exact e
theorem CellsAt.keptI {w w' : World} {v : Value} {n : Nat} {h : Nat → Value} (hc : CellsAt w v n h) (hi : ∀ i, i < n → ∃ k x, h i = .int k x) (k : IntKept w w') : CellsAt w' v n h := by
  obtain ⟨a, g, o, cap, e, ha, hcell⟩ := hc
  refine ⟨a, g, o, cap, e, ha, fun i hlt => ?_⟩
  have h6 := hcell i hlt
  obtain ⟨kk, x, hx⟩ := hi i hlt
  rw [hx] at h6 ⊢
  exact k _ _ _ h6
theorem NatAt.keptI {w w' : World} {v : Value} {z : Int} (h : NatAt w v z) (k : IntKept w w') : NatAt w' v z := by
  obtain ⟨n, D, ⟨a, cap, e1, e2, e3, e4, hc⟩, hL, hz, hn⟩ := h
  exact ⟨n, D, ⟨a, cap, e1, e2, e3, e4, CellsAt.keptI hc (fun i _ => ⟨_, _, rfl⟩) k⟩, hL, hz, hn⟩
/-- the row g holds n natural numbers -/
def PartsAt (w : World) (g N n : Nat) (Z : Nat → Int) : Prop := ∃ P : Nat → Value, w.rowIs g 130 N P ∧ n ≤ N ∧ ∀ t, t < n → NatAt w (P t) (Z t)
theorem PartsAt.kept {w w' : World} {g N n : Nat} {Z : Nat → Int} (h : PartsAt w g N n Z) (k : Kept w w') : PartsAt w' g N n Z := by
  obtain ⟨P, h1, h2, h4⟩ := h
  exact ⟨P, k.row h1, h2, fun t ht => (h4 t ht).kept k⟩
theorem PartsAt.list {w : World} {g N n cap : Nat} {Z : Nat → Int} (h : PartsAt w g N n Z) : NatsL w (.slice (some ⟨g, 0, none⟩) n cap) n Z := by
  obtain ⟨P, h1, h2, h4⟩ := h
  exact ⟨P, ⟨_, g, 0, cap, rfl, fun _ => rfl, fun i hi => by rw [Nat.zero_add]; exact h1.cell (by omega)⟩, h4⟩
theorem natAt_slice {w : World} {v : Value} {z : Int} (h : NatAt w v z) : ∃ a k c, v = .slice a k c := by
  obtain ⟨n, D, ⟨a, cap, e1, _⟩, _⟩ := h
  exact ⟨a, n, cap, e1⟩
theorem PartsAt.ints {w : World} {g N n : Nat} {Z : Nat → Int} (h : PartsAt w g N n Z) (i : Nat) (hi : i < n) (v : Value) : IntKept w (w.setCell ⟨g, i, none⟩ v) := by
  obtain ⟨P, h1, h2, h4⟩ := h
  obtain ⟨a, k, c, e⟩ := natAt_slice (h4 i hi)
  have := h1.cell (show i < N by omega)
  rw [e] at this
  exact IntKept.set this v
/-- one number is stored -/
theorem PartsAt.set {w : World} {g N n : Nat} {Z : Nat → Int} (h : PartsAt w g N n Z) (i : Nat) (hi : i < n) {v : Value} {z : Int} (hv : NatAt w v z) : PartsAt (w.setCell ⟨g, i, none⟩ v) g N n (updZ Z i z) := by
  have hI := h.ints i hi v
  obtain ⟨P, h1, h2, h4⟩ := h
  refine ⟨fun t => if t = i then v else P t, h1.set i _, h2, fun t ht => ?_⟩
  unfold updZ
  (try dsimp only)
  split
  · exact hv.keptI hI
  · exact (h4 t ht).keptI hI
end Go.Proofs.YtlnlddnjalfamaaGreatDoor
namespace Go.Proofs.YtlnlddnjalfamaaGreatDoor
open Go.RowKit Go.Deep

set_option maxRecDepth 100000 in
set_option maxHeartbeats 4000000 in
theorem unite_any (w : World) (g N n cap : Nat) (fa : Option Addr) (fl fc : Nat) (hv : Value) (i j : Nat) (Z : Nat → Int) (H : Nat → Nat) (M : Int) (hP : PartsAt w g N n Z) (hS : SetsAt w hv n H) (hi : i < n) (hj : j < n) (hH : ∀ t, t < n → H t < 65536) (hbit : ∀ t, t < n → ∀ b, (H t).testBit b = true → b < n) (hn : n ≤ 9)
    (hG : GoodZ Z n M) (hM : 10 * M < bigU) (hM0 : 0 ≤ M) :
    Calls Tryz.prog 89 #[.agg #[.slice (some ⟨g, 0, none⟩) n cap, .slice fa fl fc], hv, .int .i64 i, .int .i64 j] w fun e w' => e = .returned (.tuple #[]) ∧ KeptX (fun k => k = g) w w' ∧ IntKept w w' ∧ PartsAt w' g N n (uniteZ Z H i j) := by
  have hpb : ∀ t, t < n → ∀ k, k ≤ (horsesL (H t) 9).length → pullZ Z (horsesL (H t) 9) k < bigU := fun t ht k hk => by
    have h1 := (pullZ_bd hG (l := horsesL (H t) 9) (fun x hx => hbit t ht x (horsesL_bit hx)) k hk).2
    have h2 : (horsesL (H t) 9).length ≤ 9 := by
      unfold horsesL
      exact Nat.le_trans (List.length_filter_le _ _) (by simp)
    have h3 : (k : Int) * M ≤ 9 * M := Int.mul_le_mul_of_nonneg_right (by omega) hM0
    omega
  have hS2 : ∀ p q, p < n → q < n → Z p + Z q < bigU := fun p q h1 h2 => by
    have := hG.le h1
    have := hG.le h2
    omega
  have PUi := Lib.hid (fun W (hk : Kept w W) => pull_any W (.slice (some ⟨g, 0, none⟩) n cap) (.slice fa fl fc) hv n i Z H (hP.list.kept hk) (CellsAt.kept hS hk) hi (hH i hi) (hbit i hi) (hpb i hi) (by omega))
  have PUj := Lib.hid (fun W (hk : Kept w W) => pull_any W (.slice (some ⟨g, 0, none⟩) n cap) (.slice fa fl fc) hv n j Z H (hP.list.kept hk) (CellsAt.kept hS hk) hj (hH j hj) (hbit j hj) (hpb j hj) (by omega))
  obtain ⟨x, HX⟩ : ∃ x, Hid (x = pullH Z H i) := ⟨_, rfl⟩
  obtain ⟨y, HY⟩ : ∃ y, Hid (y = pullH Z H j) := ⟨_, rfl⟩
  have e1 : pullZ Z (horsesL (H i) 9) (horsesL (H i) 9).length = x := HX.out.symm
  have e2 : pullZ Z (horsesL (H j) 9) (horsesL (H j) 9).length = y := HY.out.symm
  rw [e1] at PUi
  rw [e2] at PUj
  have CM := Lib.hid (fun W va vb h1 h2 => compare_any W va vb x y h1 h2)
  have d0 : (w.alloc (.cells #[.slice (some ⟨g, 0, none⟩) n cap, .slice fa fl fc] 101)).cell? ⟨w.heap.size, 0, none⟩ = some (.slice (some ⟨g, 0, none⟩) n cap) := by unfold World.cell?; dsimp only; rw [blk_alloc_new]; rfl
  have d1 : (w.alloc (.cells #[.slice (some ⟨g, 0, none⟩) n cap, .slice fa fl fc] 101)).cell? ⟨w.heap.size, 1, none⟩ = some (.slice fa fl fc) := by unfold World.cell?; dsimp only; rw [blk_alloc_new]; rfl
  have hk0 : Kept w (w.alloc (.cells #[.slice (some ⟨g, 0, none⟩) n cap, .slice fa fl fc] 101)) := (Kept.refl w).alloc _
  clear hpb e1 e2 hbit hH hS
  go_enter Tryz.func89, Tryz.ntmps89
  go_wp2_with fail
  generalize w.alloc (.cells #[.slice (some ⟨g, 0, none⟩) n cap, .slice fa fl fc] 101) = W at *
  obtain ⟨z0, HZ0⟩ : ∃ z, Hid (z = w.heap.size) := ⟨_, rfl⟩
  rw [← HZ0.out] at d0 d1 ⊢
  have hgl : g < w.heap.size := by
    obtain ⟨P, h1, _⟩ := hP
    exact h1.lt
  have hzg : ¬ z0 = g := by rw [HZ0.out]; omega
  clear HZ0 hgl
  try go_wp2_with fail
  refine wp_region_held_drew (S := (fun w' => w'.cell? ⟨z0, 0, none⟩ = some (.slice (some ⟨g, 0, none⟩) n cap) ∧ w'.cell? ⟨z0, 1, none⟩ = some (.slice fa fl fc) ∧ Kept W w')) (by kernel_rfl) ?_ (fun hHeld => ?_)
  · (try dsimp only)
    exact ⟨Kept.cellSome (w := W) (by repeat (first | assumption | exact Kept.refl _ | apply Kept.drew | apply Kept.drewN | apply Kept.alloc | refine Kept.trans ?_ (by assumption))) d0, Kept.cellSome (w := W) (by repeat (first | assumption | exact Kept.refl _ | apply Kept.drew | apply Kept.drewN | apply Kept.alloc | refine Kept.trans ?_ (by assumption))) d1, (by repeat (first | assumption | exact Kept.refl _ | apply Kept.drew | apply Kept.drewN | apply Kept.alloc | refine Kept.trans ?_ (by assumption)))⟩
  refine wpAnyH_take (i := 0) (oi := { dst := some 8, op := Go.Op.load 101 (Go.Operand.tmp 4), type := 101, pos := "load.go:108", after := #[], guard := none }) (v := ?v1) rfl (by kernel_rfl) (by kernel_rfl) (by kernel_rfl) (fun _ _ _ h => h) (Or.inl ⟨by rfl, ?hy1⟩) (by assumption) ?rs1
  case hy1 =>
    intro w hSw
    (try dsimp only at hSw)
    go_simp
    try with_reducible rfl
  (try simp only [Act.put, List.setIfInBounds_toArray, List.set_cons_zero, List.set_cons_succ])
  refine wpAnyH_take (i := 1) (oi := { dst := some 9, op := Go.Op.move (Go.Operand.tmp 1), type := 80, pos := "load.go:108", after := #[], guard := none }) (v := ?v2) rfl (by kernel_rfl) (by kernel_rfl) (by kernel_rfl) (fun _ _ _ h => h) (Or.inl ⟨by rfl, ?hy2⟩) (by assumption) ?rs2
  case hy2 =>
    intro w hSw
    (try dsimp only at hSw)
    go_simp
    try with_reducible rfl
  (try simp only [Act.put, List.setIfInBounds_toArray, List.set_cons_zero, List.set_cons_succ])
  refine wpAnyH_take (i := 2) (oi := { dst := some 10, op := Go.Op.move (Go.Operand.tmp 2), type := 3, pos := "load.go:108", after := #[], guard := none }) (v := ?v3) rfl (by kernel_rfl) (by kernel_rfl) (by kernel_rfl) (fun _ _ _ h => h) (Or.inl ⟨by rfl, ?hy3⟩) (by assumption) ?rs3
  case hy3 =>
    intro w hSw
    (try dsimp only at hSw)
    go_simp
    try with_reducible rfl
  (try simp only [Act.put, List.setIfInBounds_toArray, List.set_cons_zero, List.set_cons_succ])
  refine wpAnyH_take (i := 4) (oi := { dst := some 12, op := Go.Op.load 101 (Go.Operand.tmp 4), type := 101, pos := "load.go:108", after := #[], guard := none }) (v := ?v4) rfl (by kernel_rfl) (by kernel_rfl) (by kernel_rfl) (fun _ _ _ h => h) (Or.inl ⟨by rfl, ?hy4⟩) (by assumption) ?rs4
  case hy4 =>
    intro w hSw
    (try dsimp only at hSw)
    go_simp
    try with_reducible rfl
  (try simp only [Act.put, List.setIfInBounds_toArray, List.set_cons_zero, List.set_cons_succ])
  refine wpAnyH_take (i := 5) (oi := { dst := some 13, op := Go.Op.move (Go.Operand.tmp 1), type := 80, pos := "load.go:108", after := #[], guard := none }) (v := ?v5) rfl (by kernel_rfl) (by kernel_rfl) (by kernel_rfl) (fun _ _ _ h => h) (Or.inl ⟨by rfl, ?hy5⟩) (by assumption) ?rs5
  case hy5 =>
    intro w hSw
    (try dsimp only at hSw)
    go_simp
    try with_reducible rfl
  (try simp only [Act.put, List.setIfInBounds_toArray, List.set_cons_zero, List.set_cons_succ])
  refine wpAnyH_take (i := 6) (oi := { dst := some 14, op := Go.Op.move (Go.Operand.tmp 3), type := 3, pos := "load.go:108", after := #[], guard := none }) (v := ?v6) rfl (by kernel_rfl) (by kernel_rfl) (by kernel_rfl) (fun _ _ _ h => h) (Or.inl ⟨by rfl, ?hy6⟩) (by assumption) ?rs6
  case hy6 =>
    intro w hSw
    (try dsimp only at hSw)
    go_simp
    try with_reducible rfl
  (try simp only [Act.put, List.setIfInBounds_toArray, List.set_cons_zero, List.set_cons_succ])
  refine wpAnyH_ready (rs := [3]) (by kernel_rfl) (by simp) ?_
  refine AllReadyH.cons (o := { dst := some 11, op := Go.Op.call { callee := Go.Callee.value (Go.Operand.func 110), args := #[Go.Operand.tmp 8, Go.Operand.tmp 9, Go.Operand.tmp 10], argTypes := #[101, 80, 3] }, type := 130, pos := "load.go:108", after := #[{ on := 0, ground := Go.Ground.data }, { on := 1, ground := Go.Ground.data }, { on := 2, ground := Go.Ground.data }], guard := none }) rfl (fun K2 hK2 => ?_) AllReadyH.nil
  go_simp
  (go_at_call 110; refine (PUi.out _ (hk0.trans (by repeat (first | assumption | exact Kept.refl _ | apply Kept.drew | apply Kept.drewN | apply Kept.alloc | refine Kept.trans ?_ (by assumption))))).mono ?_; rintro e u1 ⟨v1, rfl, hN1, hu1⟩; obtain ⟨pa, pk, pc, rfl⟩ := natAt_slice hN1)
  (try go_wp2_with fail)
  refine hK2.out _ _ ?_ (fun hHeld => ?_)
  · (try dsimp only)
    exact ⟨Kept.cellSome (w := W) (by repeat (first | assumption | exact Kept.refl _ | apply Kept.drew | apply Kept.drewN | apply Kept.alloc | refine Kept.trans ?_ (by assumption))) d0, Kept.cellSome (w := W) (by repeat (first | assumption | exact Kept.refl _ | apply Kept.drew | apply Kept.drewN | apply Kept.alloc | refine Kept.trans ?_ (by assumption))) d1, (by repeat (first | assumption | exact Kept.refl _ | apply Kept.drew | apply Kept.drewN | apply Kept.alloc | refine Kept.trans ?_ (by assumption)))⟩
  clear hK2 K2
  (try simp only [Act.put, List.setIfInBounds_toArray, List.set_cons_zero, List.set_cons_succ])
  refine wpAnyH_ready (rs := [7]) (by kernel_rfl) (by simp) ?_
  refine AllReadyH.cons (o := { dst := some 15, op := Go.Op.call { callee := Go.Callee.value (Go.Operand.func 110), args := #[Go.Operand.tmp 12, Go.Operand.tmp 13, Go.Operand.tmp 14], argTypes := #[101, 80, 3] }, type := 130, pos := "load.go:108", after := #[{ on := 4, ground := Go.Ground.data }, { on := 5, ground := Go.Ground.data }, { on := 6, ground := Go.Ground.data }, { on := 3, ground := Go.Ground.chain }], guard := none }) rfl (fun K2 hK2 => ?_) AllReadyH.nil
  go_simp
  (go_at_call 110; refine (PUj.out _ (hk0.trans (by repeat (first | assumption | exact Kept.refl _ | apply Kept.drew | apply Kept.drewN | apply Kept.alloc | refine Kept.trans ?_ (by assumption))))).mono ?_; rintro e u2 ⟨v2, rfl, hN2, hu2⟩; obtain ⟨qa, qk, qc, rfl⟩ := natAt_slice hN2)
  (try go_wp2_with fail)
  refine hK2.out _ _ ?_ (fun hHeld => ?_)
  · (try dsimp only)
    exact ⟨Kept.cellSome (w := W) (by repeat (first | assumption | exact Kept.refl _ | apply Kept.drew | apply Kept.drewN | apply Kept.alloc | refine Kept.trans ?_ (by assumption))) d0, Kept.cellSome (w := W) (by repeat (first | assumption | exact Kept.refl _ | apply Kept.drew | apply Kept.drewN | apply Kept.alloc | refine Kept.trans ?_ (by assumption))) d1, (by repeat (first | assumption | exact Kept.refl _ | apply Kept.drew | apply Kept.drewN | apply Kept.alloc | refine Kept.trans ?_ (by assumption)))⟩
  clear hK2 K2
  (try simp only [Act.put, List.setIfInBounds_toArray, List.set_cons_zero, List.set_cons_succ])
  refine wpAnyH_ready (rs := [8]) (by kernel_rfl) (by simp) ?_
  refine AllReadyH.cons (o := { dst := some 16, op := Go.Op.call { callee := Go.Callee.value (Go.Operand.func 84), args := #[Go.Operand.tmp 11, Go.Operand.tmp 15], argTypes := #[130, 130] }, type := 3, pos := "load.go:108", after := #[{ on := 3, ground := Go.Ground.data }, { on := 7, ground := Go.Ground.data }, { on := 7, ground := Go.Ground.chain }], guard := none }) rfl (fun K2 hK2 => ?_) AllReadyH.nil
  go_simp
  (go_at_call 84; refine (CM.out _ _ _ (hN1.kept (by repeat (first | assumption | exact Kept.refl _ | apply Kept.drew | apply Kept.drewN | apply Kept.alloc | refine Kept.trans ?_ (by assumption)))) hN2).mono ?_; rintro e u3 ⟨r, rfl, hu3, hr1, hr2, hr3, hr4⟩)
  (try go_wp2_with fail)
  refine hK2.out _ _ ?_ (fun hHeld => ?_)
  · (try dsimp only)
    exact ⟨Kept.cellSome (w := W) (by repeat (first | assumption | exact Kept.refl _ | apply Kept.drew | apply Kept.drewN | apply Kept.alloc | refine Kept.trans ?_ (by assumption))) d0, Kept.cellSome (w := W) (by repeat (first | assumption | exact Kept.refl _ | apply Kept.drew | apply Kept.drewN | apply Kept.alloc | refine Kept.trans ?_ (by assumption))) d1, (by repeat (first | assumption | exact Kept.refl _ | apply Kept.drew | apply Kept.drewN | apply Kept.alloc | refine Kept.trans ?_ (by assumption)))⟩
  clear hK2 K2
  (try simp only [Act.put, List.setIfInBounds_toArray, List.set_cons_zero, List.set_cons_succ])
  refine wpAnyH_take (i := 9) (oi := { dst := some 17, op := Go.Op.binOp Go.BinOp.lss 3 (Go.Operand.tmp 16) (Go.Operand.const (Go.Value.int Go.IntKind.i64 0)) 3, type := 4, pos := "load.go:108", after := #[{ on := 8, ground := Go.Ground.data }], guard := none }) (v := ?v7) rfl (by kernel_rfl) (by kernel_rfl) (by kernel_rfl) (fun _ _ _ h => h) (Or.inl ⟨by rfl, ?hy7⟩) (by assumption) ?rs7
  case hy7 =>
    intro w hSw
    (try dsimp only at hSw)
    go_simp
    try with_reducible rfl
  (try simp only [Act.put, List.setIfInBounds_toArray, List.set_cons_zero, List.set_cons_succ])
  refine wpAnyH_done (by kernel_rfl) ?_ _
  have hKE : Kept W u3 := (by repeat (first | assumption | exact Kept.refl _ | apply Kept.drew | apply Kept.drewN | apply Kept.alloc | refine Kept.trans ?_ (by assumption)))
  have hKw := hk0.trans hKE
  have d04 := hKE.cellSome d0
  obtain ⟨P, hR, hnN, hZ⟩ := hP.kept hKw
  have hR4 := hR
  have hZ4 := hZ
  clear PUi PUj CM hN1 hN2 hu1 hu2 hu3 d0 d1 hHeld hP hR hZ
  by_cases hneg : r < 0
  · have hlt : pullH Z H i < pullH Z H j := by rw [← HX.out, ← HY.out]; omega
    have HU : Hid (uniteZ Z H i j = unZ Z j i) := by show _ = _; unfold uniteZ; rw [if_pos hlt]
    clear HX HY hlt
    have t0 := hR4.cell (show j < N by omega)
    have t1 := hR4.cell (show i < N by omega)
    have z0' := hZ4 j (by omega)
    have z1' := hZ4 i (by omega)
    have b0 : (j : Int) < (n : Int) := by omega
    have b1 : (i : Int) < (n : Int) := by omega
    have b2 : (0 : Int) ≤ (j : Int) := by omega
    have b3 : (0 : Int) ≤ (i : Int) := by omega
    have hBB := Lib.hid (hS2 j i (by omega) (by omega))
    obtain ⟨a1, k1, c1, e1⟩ := natAt_slice z0'
    obtain ⟨a2, k2, c2, e2⟩ := natAt_slice z1'
    rw [e1] at t0 z0'
    rw [e2] at t1 z1'
    have HR4 := Lib.hid hR4
    have HP4 := Lib.hid (show PartsAt u3 g N n Z from ⟨P, hR4, hnN, hZ4⟩)
    have ZZ0 := Lib.hid z0'
    have ZZ1 := Lib.hid z1'
    clear e1 e2 z0' z1' hZ4 hR4
    go_wp2_with fail
    refine wp_region_held_drew (S := (fun w' => w'.cell? ⟨z0, 0, none⟩ = some (.slice (some ⟨g, 0, none⟩) n cap) ∧ KeptX (fun k => k = g) u3 w')) (by kernel_rfl) ?_ (fun hHeld => ?_)
    · (try dsimp only)
      first | exact ⟨d04, (KeptX.refl _ _)⟩ | exact ⟨d04, (KeptX.refl _ _).drew⟩ | exact ⟨d04, ((KeptX.refl _ _).drewN _)⟩ | exact ⟨d04, ((KeptX.refl _ _).drew).drew⟩
    refine wpAnyH_take (i := 0) (oi := { dst := some 20, op := Go.Op.fieldAddr 101 (Go.Operand.tmp 4) 0, type := 0, pos := "load.go:111", after := #[], guard := none }) (v := ?v8) rfl (by kernel_rfl) (by kernel_rfl) (by kernel_rfl) (fun _ _ _ h => h) (Or.inl ⟨by rfl, ?hy8⟩) (by assumption) ?rs8
    case hy8 =>
      intro w hSw
      (try dsimp only at hSw)
      go_simp
      try with_reducible rfl
    (try simp only [Act.put, List.setIfInBounds_toArray, List.set_cons_zero, List.set_cons_succ])
    refine wpAnyH_take (i := 1) (oi := { dst := some 21, op := Go.Op.load 98 (Go.Operand.tmp 20), type := 98, pos := "load.go:111", after := #[{ on := 0, ground := Go.Ground.data }], guard := none }) (v := ?v9) rfl (by kernel_rfl) (by kernel_rfl) (by kernel_rfl) (fun _ _ _ h => h) (Or.inl ⟨by rfl, ?hy9⟩) (by assumption) ?rs9
    case hy9 =>
      intro w hSw
      (try dsimp only at hSw)
      go_simp
      try with_reducible rfl
    (try simp only [Act.put, List.setIfInBounds_toArray, List.set_cons_zero, List.set_cons_succ])
    refine wpAnyH_take (i := 2) (oi := { dst := some 22, op := Go.Op.move (Go.Operand.tmp 2), type := 3, pos := "load.go:111", after := #[], guard := none }) (v := ?v10) rfl (by kernel_rfl) (by kernel_rfl) (by kernel_rfl) (fun _ _ _ h => h) (Or.inl ⟨by rfl, ?hy10⟩) (by assumption) ?rs10
    case hy10 =>
      intro w hSw
      (try dsimp only at hSw)
      go_simp
      try with_reducible rfl
    (try simp only [Act.put, List.setIfInBounds_toArray, List.set_cons_zero, List.set_cons_succ])
    refine wpAnyH_take (i := 3) (oi := { dst := some 23, op := Go.Op.fieldAddr 101 (Go.Operand.tmp 4) 0, type := 0, pos := "load.go:111", after := #[], guard := none }) (v := ?v11) rfl (by kernel_rfl) (by kernel_rfl) (by kernel_rfl) (fun _ _ _ h => h) (Or.inl ⟨by rfl, ?hy11⟩) (by assumption) ?rs11
    case hy11 =>
      intro w hSw
      (try dsimp only at hSw)
      go_simp
      try with_reducible rfl
    (try simp only [Act.put, List.setIfInBounds_toArray, List.set_cons_zero, List.set_cons_succ])
    refine wpAnyH_take (i := 4) (oi := { dst := some 24, op := Go.Op.load 98 (Go.Operand.tmp 23), type := 98, pos := "load.go:111", after := #[{ on := 3, ground := Go.Ground.data }], guard := none }) (v := ?v12) rfl (by kernel_rfl) (by kernel_rfl) (by kernel_rfl) (fun _ _ _ h => h) (Or.inl ⟨by rfl, ?hy12⟩) (by assumption) ?rs12
    case hy12 =>
      intro w hSw
      (try dsimp only at hSw)
      go_simp
      try with_reducible rfl
    (try simp only [Act.put, List.setIfInBounds_toArray, List.set_cons_zero, List.set_cons_succ])
    refine wpAnyH_take (i := 5) (oi := { dst := some 25, op := Go.Op.move (Go.Operand.tmp 2), type := 3, pos := "load.go:111", after := #[], guard := none }) (v := ?v13) rfl (by kernel_rfl) (by kernel_rfl) (by kernel_rfl) (fun _ _ _ h => h) (Or.inl ⟨by rfl, ?hy13⟩) (by assumption) ?rs13
    case hy13 =>
      intro w hSw
      (try dsimp only at hSw)
      go_simp
      try with_reducible rfl
    (try simp only [Act.put, List.setIfInBounds_toArray, List.set_cons_zero, List.set_cons_succ])
    refine wpAnyH_take (i := 6) (oi := { dst := some 26, op := Go.Op.indexAddr 98 (Go.Operand.tmp 24) (Go.Operand.tmp 25), type := 0, pos := "load.go:111", after := #[{ on := 4, ground := Go.Ground.data }, { on := 5, ground := Go.Ground.data }], guard := none }) (v := ?v14) rfl (by kernel_rfl) (by kernel_rfl) (by kernel_rfl) (fun _ _ _ h => h) (Or.inl ⟨by rfl, ?hy14⟩) (by assumption) ?rs14
    case hy14 =>
      intro w hSw
      (try dsimp only at hSw)
      go_simp
      try with_reducible rfl
    (try simp only [Act.put, List.setIfInBounds_toArray, List.set_cons_zero, List.set_cons_succ])
    refine wpAnyH_take (i := 8) (oi := { dst := some 28, op := Go.Op.fieldAddr 101 (Go.Operand.tmp 4) 0, type := 0, pos := "load.go:111", after := #[], guard := none }) (v := ?v15) rfl (by kernel_rfl) (by kernel_rfl) (by kernel_rfl) (fun _ _ _ h => h) (Or.inl ⟨by rfl, ?hy15⟩) (by assumption) ?rs15
    case hy15 =>
      intro w hSw
      (try dsimp only at hSw)
      go_simp
      try with_reducible rfl
    (try simp only [Act.put, List.setIfInBounds_toArray, List.set_cons_zero, List.set_cons_succ])
    refine wpAnyH_take (i := 9) (oi := { dst := some 29, op := Go.Op.load 98 (Go.Operand.tmp 28), type := 98, pos := "load.go:111", after := #[{ on := 8, ground := Go.Ground.data }], guard := none }) (v := ?v16) rfl (by kernel_rfl) (by kernel_rfl) (by kernel_rfl) (fun _ _ _ h => h) (Or.inl ⟨by rfl, ?hy16⟩) (by assumption) ?rs16
    case hy16 =>
      intro w hSw
      (try dsimp only at hSw)
      go_simp
      try with_reducible rfl
    (try simp only [Act.put, List.setIfInBounds_toArray, List.set_cons_zero, List.set_cons_succ])
    refine wpAnyH_take (i := 10) (oi := { dst := some 30, op := Go.Op.move (Go.Operand.tmp 3), type := 3, pos := "load.go:111", after := #[], guard := none }) (v := ?v17) rfl (by kernel_rfl) (by kernel_rfl) (by kernel_rfl) (fun _ _ _ h => h) (Or.inl ⟨by rfl, ?hy17⟩) (by assumption) ?rs17
    case hy17 =>
      intro w hSw
      (try dsimp only at hSw)
      go_simp
      try with_reducible rfl
    (try simp only [Act.put, List.setIfInBounds_toArray, List.set_cons_zero, List.set_cons_succ])
    refine wpAnyH_take (i := 11) (oi := { dst := some 31, op := Go.Op.indexAddr 98 (Go.Operand.tmp 29) (Go.Operand.tmp 30), type := 0, pos := "load.go:111", after := #[{ on := 9, ground := Go.Ground.data }, { on := 10, ground := Go.Ground.data }], guard := none }) (v := ?v18) rfl (by kernel_rfl) (by kernel_rfl) (by kernel_rfl) (fun _ _ _ h => h) (Or.inl ⟨by rfl, ?hy18⟩) (by assumption) ?rs18
    case hy18 =>
      intro w hSw
      (try dsimp only at hSw)
      go_simp
      try with_reducible rfl
    (try simp only [Act.put, List.setIfInBounds_toArray, List.set_cons_zero, List.set_cons_succ])
    refine wpAnyH_ready (rs := [7, 12]) (by kernel_rfl) (by simp) ?_
    refine AllReadyH.cons (o := { dst := some 27, op := Go.Op.load 130 (Go.Operand.tmp 26), type := 130, pos := "load.go:111", after := #[{ on := 6, ground := Go.Ground.data }], guard := none }) rfl (fun K2 hK2 => ?_) (AllReadyH.cons (o := { dst := some 32, op := Go.Op.load 130 (Go.Operand.tmp 31), type := 130, pos := "load.go:111", after := #[{ on := 11, ground := Go.Ground.data }], guard := none }) rfl (fun K3 hK3 => ?_) AllReadyH.nil)
    · skip
      go_simp
      refine hK2.out _ _ ?_ (fun hHeld => ?_)
      · (try dsimp only)
        first | exact ⟨d04, (KeptX.refl _ _)⟩ | exact ⟨d04, (KeptX.refl _ _).drew⟩ | exact ⟨d04, ((KeptX.refl _ _).drewN _)⟩ | exact ⟨d04, ((KeptX.refl _ _).drew).drew⟩
      (try simp only [Act.put, List.setIfInBounds_toArray, List.set_cons_zero, List.set_cons_succ])
      refine wpAnyH_ready (rs := [12]) (by kernel_rfl) (by simp) ?_
      refine AllReadyH.cons (o := { dst := some 32, op := Go.Op.load 130 (Go.Operand.tmp 31), type := 130, pos := "load.go:111", after := #[{ on := 11, ground := Go.Ground.data }], guard := none }) rfl (fun Kb hK3b => ?_) AllReadyH.nil
      go_simp
      refine hK3b.out _ _ ?_ (fun hHeld => ?_)
      · (try dsimp only)
        first | exact ⟨d04, (KeptX.refl _ _)⟩ | exact ⟨d04, (KeptX.refl _ _).drew⟩ | exact ⟨d04, ((KeptX.refl _ _).drewN _)⟩ | exact ⟨d04, ((KeptX.refl _ _).drew).drew⟩
      (try simp only [Act.put, List.setIfInBounds_toArray, List.set_cons_zero, List.set_cons_succ])
      refine wpAnyH_ready (rs := [13]) (by kernel_rfl) (by simp) ?_
      refine AllReadyH.cons (o := { dst := some 33, op := Go.Op.call { callee := Go.Callee.value (Go.Operand.func 85), args := #[Go.Operand.tmp 27, Go.Operand.tmp 32], argTypes := #[130, 130] }, type := 130, pos := "load.go:111", after := #[{ on := 7, ground := Go.Ground.data }, { on := 12, ground := Go.Ground.data }], guard := none }) rfl (fun K4 hK4 => ?_) AllReadyH.nil
      go_simp
      (go_at_call 85; refine (plus_any _ _ _ _ _ (ZZ0.out.kept (by repeat (first | assumption | exact Kept.refl _ | apply Kept.drew | apply Kept.drewN | apply Kept.alloc | refine Kept.trans ?_ (by assumption)))) (ZZ1.out.kept (by repeat (first | assumption | exact Kept.refl _ | apply Kept.drew | apply Kept.drewN | apply Kept.alloc | refine Kept.trans ?_ (by assumption)))) hBB.out).mono ?_; rintro e w5 ⟨v5, rfl, hN5, hK5⟩; obtain ⟨a5, k5, c5, rfl⟩ := natAt_slice hN5)
      (try go_wp2_with fail)
      have hK5' : Kept u3 w5 := by first | exact hK5 | exact Kept.trans ((Kept.refl _).drew) hK5 | exact Kept.trans ((Kept.refl _).drewN _) hK5
      have d05 := hK5'.cellSome d04
      have t05 := hK5'.cellSome t0
      have hR5 := hK5'.row HR4.out
      have f05 := hR5.frozen j
      have f15 := hR5.frozen i
      have HP5 := Lib.hid (HP4.out.kept hK5')
      have hX5 : KeptX (fun k => k = g) u3 w5 := hK5'.weaken (fun _ h => h.elim)
      have hX6 := hX5.setIn j (.slice a5 k5 c5)
      have d06 := KeptX.cellSome ((KeptX.refl (fun k => k = g) w5).setIn j (.slice a5 k5 c5)) d05 (show ¬ z0 = g from hzg)
      refine hK4.out _ _ ?_ (fun hHeld => ?_)
      · (try dsimp only)
        exact ⟨d05, hX5⟩
      (try simp only [Act.put, List.setIfInBounds_toArray, List.set_cons_zero, List.set_cons_succ])
      refine wpAnyH_take (i := 14) (oi := { dst := some 34, op := Go.Op.indexAddr 98 (Go.Operand.tmp 21) (Go.Operand.tmp 22), type := 0, pos := "load.go:111", after := #[{ on := 1, ground := Go.Ground.data }, { on := 2, ground := Go.Ground.data }, { on := 0, ground := Go.Ground.phase }, { on := 1, ground := Go.Ground.phase }, { on := 2, ground := Go.Ground.phase }, { on := 3, ground := Go.Ground.phase }, { on := 4, ground := Go.Ground.phase }, { on := 5, ground := Go.Ground.phase }, { on := 6, ground := Go.Ground.phase }, { on := 7, ground := Go.Ground.phase }, { on := 8, ground := Go.Ground.phase }, { on := 9, ground := Go.Ground.phase }, { on := 10, ground := Go.Ground.phase }, { on := 11, ground := Go.Ground.phase }, { on := 12, ground := Go.Ground.phase }, { on := 13, ground := Go.Ground.phase }], guard := none }) (v := ?v19) rfl (by kernel_rfl) (by kernel_rfl) (by kernel_rfl) (fun _ _ _ h => h) (Or.inl ⟨by rfl, ?hy19⟩) (by assumption) ?rs19
      case hy19 =>
        intro w hSw
        (try dsimp only at hSw)
        go_simp
        try with_reducible rfl
      (try simp only [Act.put, List.setIfInBounds_toArray, List.set_cons_zero, List.set_cons_succ])
      refine wpAnyH_ready (rs := [15]) (by kernel_rfl) (by simp) ?_
      refine AllReadyH.cons (o := { dst := none, op := Go.Op.store 130 (Go.Operand.tmp 34) (Go.Operand.tmp 33), type := 0, pos := "load.go:111", after := #[{ on := 14, ground := Go.Ground.data }, { on := 13, ground := Go.Ground.data }, { on := 13, ground := Go.Ground.chain }, { on := 0, ground := Go.Ground.phase }, { on := 1, ground := Go.Ground.phase }, { on := 2, ground := Go.Ground.phase }, { on := 3, ground := Go.Ground.phase }, { on := 4, ground := Go.Ground.phase }, { on := 5, ground := Go.Ground.phase }, { on := 6, ground := Go.Ground.phase }, { on := 7, ground := Go.Ground.phase }, { on := 8, ground := Go.Ground.phase }, { on := 9, ground := Go.Ground.phase }, { on := 10, ground := Go.Ground.phase }, { on := 11, ground := Go.Ground.phase }, { on := 12, ground := Go.Ground.phase }, { on := 13, ground := Go.Ground.phase }], guard := none }) rfl (fun K5 hK5z => ?_) AllReadyH.nil
      go_simp
      refine hK5z.out _ _ ?_ (fun hHeld => ?_)
      · (try dsimp only)
        exact ⟨d06, hX6⟩
      (try simp only [Act.put, List.setIfInBounds_toArray, List.set_cons_zero, List.set_cons_succ])
      refine wpAnyH_done (by kernel_rfl) ?_ _
      have HP6 := HP5.out.set j (by omega) hN5
      have hI6 := HP5.out.ints j (by omega) (.slice a5 k5 c5)
      have HP6h := Lib.hid HP6
      obtain ⟨P6, hR6, hnN6, hZ6⟩ := HP6
      have t16 := hR6.cell (show i < N by omega)
      have f16 := hR6.frozen i
      have HP7 := Lib.hid (HP6h.out.set i (by omega) (NatAt.nil _))
      have hI7 := HP6h.out.ints i (by omega) (.slice none 0 0)
      have HIA := Lib.hid (((Kept.ints (hKw.trans hK5')).trans hI6).trans hI7)
      have hX7 := hX6.setIn i (.slice none 0 0)
      clear hI6 hI7 hR6 hZ6 HP6h HP5 hR5 t05 f05 f15 hK5 hK5' hX5
      go_wp2_with fail
      go_end0
      refine ⟨rfl, KeptX.weaken (KeptX.trans (hKw.weaken (fun _ h => h.elim)) hX7) (fun _ h => h), HIA.out, ?_⟩
      rw [HU.out]
      exact HP7.out
    · skip
      go_simp
      refine hK3.out _ _ ?_ (fun hHeld => ?_)
      · (try dsimp only)
        first | exact ⟨d04, (KeptX.refl _ _)⟩ | exact ⟨d04, (KeptX.refl _ _).drew⟩ | exact ⟨d04, ((KeptX.refl _ _).drewN _)⟩ | exact ⟨d04, ((KeptX.refl _ _).drew).drew⟩
      (try simp only [Act.put, List.setIfInBounds_toArray, List.set_cons_zero, List.set_cons_succ])
      refine wpAnyH_ready (rs := [7]) (by kernel_rfl) (by simp) ?_
      refine AllReadyH.cons (o := { dst := some 27, op := Go.Op.load 130 (Go.Operand.tmp 26), type := 130, pos := "load.go:111", after := #[{ on := 6, ground := Go.Ground.data }], guard := none }) rfl (fun Kb hK2b => ?_) AllReadyH.nil
      go_simp
      refine hK2b.out _ _ ?_ (fun hHeld => ?_)
      · (try dsimp only)
        first | exact ⟨d04, (KeptX.refl _ _)⟩ | exact ⟨d04, (KeptX.refl _ _).drew⟩ | exact ⟨d04, ((KeptX.refl _ _).drewN _)⟩ | exact ⟨d04, ((KeptX.refl _ _).drew).drew⟩
      (try simp only [Act.put, List.setIfInBounds_toArray, List.set_cons_zero, List.set_cons_succ])
      refine wpAnyH_ready (rs := [13]) (by kernel_rfl) (by simp) ?_
      refine AllReadyH.cons (o := { dst := some 33, op := Go.Op.call { callee := Go.Callee.value (Go.Operand.func 85), args := #[Go.Operand.tmp 27, Go.Operand.tmp 32], argTypes := #[130, 130] }, type := 130, pos := "load.go:111", after := #[{ on := 7, ground := Go.Ground.data }, { on := 12, ground := Go.Ground.data }], guard := none }) rfl (fun K4 hK4 => ?_) AllReadyH.nil
      go_simp
      (go_at_call 85; refine (plus_any _ _ _ _ _ (ZZ0.out.kept (by repeat (first | assumption | exact Kept.refl _ | apply Kept.drew | apply Kept.drewN | apply Kept.alloc | refine Kept.trans ?_ (by assumption)))) (ZZ1.out.kept (by repeat (first | assumption | exact Kept.refl _ | apply Kept.drew | apply Kept.drewN | apply Kept.alloc | refine Kept.trans ?_ (by assumption)))) hBB.out).mono ?_; rintro e w5 ⟨v5, rfl, hN5, hK5⟩; obtain ⟨a5, k5, c5, rfl⟩ := natAt_slice hN5)
      (try go_wp2_with fail)
      have hK5' : Kept u3 w5 := by first | exact hK5 | exact Kept.trans ((Kept.refl _).drew) hK5 | exact Kept.trans ((Kept.refl _).drewN _) hK5
      have d05 := hK5'.cellSome d04
      have t05 := hK5'.cellSome t0
      have hR5 := hK5'.row HR4.out
      have f05 := hR5.frozen j
      have f15 := hR5.frozen i
      have HP5 := Lib.hid (HP4.out.kept hK5')
      have hX5 : KeptX (fun k => k = g) u3 w5 := hK5'.weaken (fun _ h => h.elim)
      have hX6 := hX5.setIn j (.slice a5 k5 c5)
      have d06 := KeptX.cellSome ((KeptX.refl (fun k => k = g) w5).setIn j (.slice a5 k5 c5)) d05 (show ¬ z0 = g from hzg)
      refine hK4.out _ _ ?_ (fun hHeld => ?_)
      · (try dsimp only)
        exact ⟨d05, hX5⟩
      (try simp only [Act.put, List.setIfInBounds_toArray, List.set_cons_zero, List.set_cons_succ])
      refine wpAnyH_take (i := 14) (oi := { dst := some 34, op := Go.Op.indexAddr 98 (Go.Operand.tmp 21) (Go.Operand.tmp 22), type := 0, pos := "load.go:111", after := #[{ on := 1, ground := Go.Ground.data }, { on := 2, ground := Go.Ground.data }, { on := 0, ground := Go.Ground.phase }, { on := 1, ground := Go.Ground.phase }, { on := 2, ground := Go.Ground.phase }, { on := 3, ground := Go.Ground.phase }, { on := 4, ground := Go.Ground.phase }, { on := 5, ground := Go.Ground.phase }, { on := 6, ground := Go.Ground.phase }, { on := 7, ground := Go.Ground.phase }, { on := 8, ground := Go.Ground.phase }, { on := 9, ground := Go.Ground.phase }, { on := 10, ground := Go.Ground.phase }, { on := 11, ground := Go.Ground.phase }, { on := 12, ground := Go.Ground.phase }, { on := 13, ground := Go.Ground.phase }], guard := none }) (v := ?v20) rfl (by kernel_rfl) (by kernel_rfl) (by kernel_rfl) (fun _ _ _ h => h) (Or.inl ⟨by rfl, ?hy20⟩) (by assumption) ?rs20
      case hy20 =>
        intro w hSw
        (try dsimp only at hSw)
        go_simp
        try with_reducible rfl
      (try simp only [Act.put, List.setIfInBounds_toArray, List.set_cons_zero, List.set_cons_succ])
      refine wpAnyH_ready (rs := [15]) (by kernel_rfl) (by simp) ?_
      refine AllReadyH.cons (o := { dst := none, op := Go.Op.store 130 (Go.Operand.tmp 34) (Go.Operand.tmp 33), type := 0, pos := "load.go:111", after := #[{ on := 14, ground := Go.Ground.data }, { on := 13, ground := Go.Ground.data }, { on := 13, ground := Go.Ground.chain }, { on := 0, ground := Go.Ground.phase }, { on := 1, ground := Go.Ground.phase }, { on := 2, ground := Go.Ground.phase }, { on := 3, ground := Go.Ground.phase }, { on := 4, ground := Go.Ground.phase }, { on := 5, ground := Go.Ground.phase }, { on := 6, ground := Go.Ground.phase }, { on := 7, ground := Go.Ground.phase }, { on := 8, ground := Go.Ground.phase }, { on := 9, ground := Go.Ground.phase }, { on := 10, ground := Go.Ground.phase }, { on := 11, ground := Go.Ground.phase }, { on := 12, ground := Go.Ground.phase }, { on := 13, ground := Go.Ground.phase }], guard := none }) rfl (fun K5 hK5z => ?_) AllReadyH.nil
      go_simp
      refine hK5z.out _ _ ?_ (fun hHeld => ?_)
      · (try dsimp only)
        exact ⟨d06, hX6⟩
      (try simp only [Act.put, List.setIfInBounds_toArray, List.set_cons_zero, List.set_cons_succ])
      refine wpAnyH_done (by kernel_rfl) ?_ _
      have HP6 := HP5.out.set j (by omega) hN5
      have hI6 := HP5.out.ints j (by omega) (.slice a5 k5 c5)
      have HP6h := Lib.hid HP6
      obtain ⟨P6, hR6, hnN6, hZ6⟩ := HP6
      have t16 := hR6.cell (show i < N by omega)
      have f16 := hR6.frozen i
      have HP7 := Lib.hid (HP6h.out.set i (by omega) (NatAt.nil _))
      have hI7 := HP6h.out.ints i (by omega) (.slice none 0 0)
      have HIA := Lib.hid (((Kept.ints (hKw.trans hK5')).trans hI6).trans hI7)
      have hX7 := hX6.setIn i (.slice none 0 0)
      clear hI6 hI7 hR6 hZ6 HP6h HP5 hR5 t05 f05 f15 hK5 hK5' hX5
      go_wp2_with fail
      go_end0
      refine ⟨rfl, KeptX.weaken (KeptX.trans (hKw.weaken (fun _ h => h.elim)) hX7) (fun _ h => h), HIA.out, ?_⟩
      rw [HU.out]
      exact HP7.out
  · have hlt : ¬ pullH Z H i < pullH Z H j := by rw [← HX.out, ← HY.out]; omega
    have HU : Hid (uniteZ Z H i j = unZ Z i j) := by show _ = _; unfold uniteZ; rw [if_neg hlt]
    clear HX HY hlt
    have t0 := hR4.cell (show i < N by omega)
    have t1 := hR4.cell (show j < N by omega)
    have z0' := hZ4 i (by omega)
    have z1' := hZ4 j (by omega)
    have b0 : (i : Int) < (n : Int) := by omega
    have b1 : (j : Int) < (n : Int) := by omega
    have b2 : (0 : Int) ≤ (i : Int) := by omega
    have b3 : (0 : Int) ≤ (j : Int) := by omega
    have hBB := Lib.hid (hS2 i j (by omega) (by omega))
    obtain ⟨a1, k1, c1, e1⟩ := natAt_slice z0'
    obtain ⟨a2, k2, c2, e2⟩ := natAt_slice z1'
    rw [e1] at t0 z0'
    rw [e2] at t1 z1'
    have HR4 := Lib.hid hR4
    have HP4 := Lib.hid (show PartsAt u3 g N n Z from ⟨P, hR4, hnN, hZ4⟩)
    have ZZ0 := Lib.hid z0'
    have ZZ1 := Lib.hid z1'
    clear e1 e2 z0' z1' hZ4 hR4
    go_wp2_with fail
    refine wp_region_held_drew (S := (fun w' => w'.cell? ⟨z0, 0, none⟩ = some (.slice (some ⟨g, 0, none⟩) n cap) ∧ KeptX (fun k => k = g) u3 w')) (by kernel_rfl) ?_ (fun hHeld => ?_)
    · (try dsimp only)
      first | exact ⟨d04, (KeptX.refl _ _)⟩ | exact ⟨d04, (KeptX.refl _ _).drew⟩ | exact ⟨d04, ((KeptX.refl _ _).drewN _)⟩ | exact ⟨d04, ((KeptX.refl _ _).drew).drew⟩
    refine wpAnyH_take (i := 0) (oi := { dst := some 20, op := Go.Op.fieldAddr 101 (Go.Operand.tmp 4) 0, type := 0, pos := "load.go:111", after := #[], guard := none }) (v := ?v21) rfl (by kernel_rfl) (by kernel_rfl) (by kernel_rfl) (fun _ _ _ h => h) (Or.inl ⟨by rfl, ?hy21⟩) (by assumption) ?rs21
    case hy21 =>
      intro w hSw
      (try dsimp only at hSw)
      go_simp
      try with_reducible rfl
    (try simp only [Act.put, List.setIfInBounds_toArray, List.set_cons_zero, List.set_cons_succ])
    refine wpAnyH_take (i := 1) (oi := { dst := some 21, op := Go.Op.load 98 (Go.Operand.tmp 20), type := 98, pos := "load.go:111", after := #[{ on := 0, ground := Go.Ground.data }], guard := none }) (v := ?v22) rfl (by kernel_rfl) (by kernel_rfl) (by kernel_rfl) (fun _ _ _ h => h) (Or.inl ⟨by rfl, ?hy22⟩) (by assumption) ?rs22
    case hy22 =>
      intro w hSw
      (try dsimp only at hSw)
      go_simp
      try with_reducible rfl
    (try simp only [Act.put, List.setIfInBounds_toArray, List.set_cons_zero, List.set_cons_succ])
    refine wpAnyH_take (i := 2) (oi := { dst := some 22, op := Go.Op.move (Go.Operand.tmp 2), type := 3, pos := "load.go:111", after := #[], guard := none }) (v := ?v23) rfl (by kernel_rfl) (by kernel_rfl) (by kernel_rfl) (fun _ _ _ h => h) (Or.inl ⟨by rfl, ?hy23⟩) (by assumption) ?rs23
    case hy23 =>
      intro w hSw
      (try dsimp only at hSw)
      go_simp
      try with_reducible rfl
    (try simp only [Act.put, List.setIfInBounds_toArray, List.set_cons_zero, List.set_cons_succ])
    refine wpAnyH_take (i := 3) (oi := { dst := some 23, op := Go.Op.fieldAddr 101 (Go.Operand.tmp 4) 0, type := 0, pos := "load.go:111", after := #[], guard := none }) (v := ?v24) rfl (by kernel_rfl) (by kernel_rfl) (by kernel_rfl) (fun _ _ _ h => h) (Or.inl ⟨by rfl, ?hy24⟩) (by assumption) ?rs24
    case hy24 =>
      intro w hSw
      (try dsimp only at hSw)
      go_simp
      try with_reducible rfl
    (try simp only [Act.put, List.setIfInBounds_toArray, List.set_cons_zero, List.set_cons_succ])
    refine wpAnyH_take (i := 4) (oi := { dst := some 24, op := Go.Op.load 98 (Go.Operand.tmp 23), type := 98, pos := "load.go:111", after := #[{ on := 3, ground := Go.Ground.data }], guard := none }) (v := ?v25) rfl (by kernel_rfl) (by kernel_rfl) (by kernel_rfl) (fun _ _ _ h => h) (Or.inl ⟨by rfl, ?hy25⟩) (by assumption) ?rs25
    case hy25 =>
      intro w hSw
      (try dsimp only at hSw)
      go_simp
      try with_reducible rfl
    (try simp only [Act.put, List.setIfInBounds_toArray, List.set_cons_zero, List.set_cons_succ])
    refine wpAnyH_take (i := 5) (oi := { dst := some 25, op := Go.Op.move (Go.Operand.tmp 2), type := 3, pos := "load.go:111", after := #[], guard := none }) (v := ?v26) rfl (by kernel_rfl) (by kernel_rfl) (by kernel_rfl) (fun _ _ _ h => h) (Or.inl ⟨by rfl, ?hy26⟩) (by assumption) ?rs26
    case hy26 =>
      intro w hSw
      (try dsimp only at hSw)
      go_simp
      try with_reducible rfl
    (try simp only [Act.put, List.setIfInBounds_toArray, List.set_cons_zero, List.set_cons_succ])
    refine wpAnyH_take (i := 6) (oi := { dst := some 26, op := Go.Op.indexAddr 98 (Go.Operand.tmp 24) (Go.Operand.tmp 25), type := 0, pos := "load.go:111", after := #[{ on := 4, ground := Go.Ground.data }, { on := 5, ground := Go.Ground.data }], guard := none }) (v := ?v27) rfl (by kernel_rfl) (by kernel_rfl) (by kernel_rfl) (fun _ _ _ h => h) (Or.inl ⟨by rfl, ?hy27⟩) (by assumption) ?rs27
    case hy27 =>
      intro w hSw
      (try dsimp only at hSw)
      go_simp
      try with_reducible rfl
    (try simp only [Act.put, List.setIfInBounds_toArray, List.set_cons_zero, List.set_cons_succ])
    refine wpAnyH_take (i := 8) (oi := { dst := some 28, op := Go.Op.fieldAddr 101 (Go.Operand.tmp 4) 0, type := 0, pos := "load.go:111", after := #[], guard := none }) (v := ?v28) rfl (by kernel_rfl) (by kernel_rfl) (by kernel_rfl) (fun _ _ _ h => h) (Or.inl ⟨by rfl, ?hy28⟩) (by assumption) ?rs28
    case hy28 =>
      intro w hSw
      (try dsimp only at hSw)
      go_simp
      try with_reducible rfl
    (try simp only [Act.put, List.setIfInBounds_toArray, List.set_cons_zero, List.set_cons_succ])
    refine wpAnyH_take (i := 9) (oi := { dst := some 29, op := Go.Op.load 98 (Go.Operand.tmp 28), type := 98, pos := "load.go:111", after := #[{ on := 8, ground := Go.Ground.data }], guard := none }) (v := ?v29) rfl (by kernel_rfl) (by kernel_rfl) (by kernel_rfl) (fun _ _ _ h => h) (Or.inl ⟨by rfl, ?hy29⟩) (by assumption) ?rs29
    case hy29 =>
      intro w hSw
      (try dsimp only at hSw)
      go_simp
      try with_reducible rfl
    (try simp only [Act.put, List.setIfInBounds_toArray, List.set_cons_zero, List.set_cons_succ])
    refine wpAnyH_take (i := 10) (oi := { dst := some 30, op := Go.Op.move (Go.Operand.tmp 3), type := 3, pos := "load.go:111", after := #[], guard := none }) (v := ?v30) rfl (by kernel_rfl) (by kernel_rfl) (by kernel_rfl) (fun _ _ _ h => h) (Or.inl ⟨by rfl, ?hy30⟩) (by assumption) ?rs30
    case hy30 =>
      intro w hSw
      (try dsimp only at hSw)
      go_simp
      try with_reducible rfl
    (try simp only [Act.put, List.setIfInBounds_toArray, List.set_cons_zero, List.set_cons_succ])
    refine wpAnyH_take (i := 11) (oi := { dst := some 31, op := Go.Op.indexAddr 98 (Go.Operand.tmp 29) (Go.Operand.tmp 30), type := 0, pos := "load.go:111", after := #[{ on := 9, ground := Go.Ground.data }, { on := 10, ground := Go.Ground.data }], guard := none }) (v := ?v31) rfl (by kernel_rfl) (by kernel_rfl) (by kernel_rfl) (fun _ _ _ h => h) (Or.inl ⟨by rfl, ?hy31⟩) (by assumption) ?rs31
    case hy31 =>
      intro w hSw
      (try dsimp only at hSw)
      go_simp
      try with_reducible rfl
    (try simp only [Act.put, List.setIfInBounds_toArray, List.set_cons_zero, List.set_cons_succ])
    refine wpAnyH_ready (rs := [7, 12]) (by kernel_rfl) (by simp) ?_
    refine AllReadyH.cons (o := { dst := some 27, op := Go.Op.load 130 (Go.Operand.tmp 26), type := 130, pos := "load.go:111", after := #[{ on := 6, ground := Go.Ground.data }], guard := none }) rfl (fun K2 hK2 => ?_) (AllReadyH.cons (o := { dst := some 32, op := Go.Op.load 130 (Go.Operand.tmp 31), type := 130, pos := "load.go:111", after := #[{ on := 11, ground := Go.Ground.data }], guard := none }) rfl (fun K3 hK3 => ?_) AllReadyH.nil)
    · skip
      go_simp
      refine hK2.out _ _ ?_ (fun hHeld => ?_)
      · (try dsimp only)
        first | exact ⟨d04, (KeptX.refl _ _)⟩ | exact ⟨d04, (KeptX.refl _ _).drew⟩ | exact ⟨d04, ((KeptX.refl _ _).drewN _)⟩ | exact ⟨d04, ((KeptX.refl _ _).drew).drew⟩
      (try simp only [Act.put, List.setIfInBounds_toArray, List.set_cons_zero, List.set_cons_succ])
      refine wpAnyH_ready (rs := [12]) (by kernel_rfl) (by simp) ?_
      refine AllReadyH.cons (o := { dst := some 32, op := Go.Op.load 130 (Go.Operand.tmp 31), type := 130, pos := "load.go:111", after := #[{ on := 11, ground := Go.Ground.data }], guard := none }) rfl (fun Kb hK3b => ?_) AllReadyH.nil
      go_simp
      refine hK3b.out _ _ ?_ (fun hHeld => ?_)
      · (try dsimp only)
        first | exact ⟨d04, (KeptX.refl _ _)⟩ | exact ⟨d04, (KeptX.refl _ _).drew⟩ | exact ⟨d04, ((KeptX.refl _ _).drewN _)⟩ | exact ⟨d04, ((KeptX.refl _ _).drew).drew⟩
      (try simp only [Act.put, List.setIfInBounds_toArray, List.set_cons_zero, List.set_cons_succ])
      refine wpAnyH_ready (rs := [13]) (by kernel_rfl) (by simp) ?_
      refine AllReadyH.cons (o := { dst := some 33, op := Go.Op.call { callee := Go.Callee.value (Go.Operand.func 85), args := #[Go.Operand.tmp 27, Go.Operand.tmp 32], argTypes := #[130, 130] }, type := 130, pos := "load.go:111", after := #[{ on := 7, ground := Go.Ground.data }, { on := 12, ground := Go.Ground.data }], guard := none }) rfl (fun K4 hK4 => ?_) AllReadyH.nil
      go_simp
      (go_at_call 85; refine (plus_any _ _ _ _ _ (ZZ0.out.kept (by repeat (first | assumption | exact Kept.refl _ | apply Kept.drew | apply Kept.drewN | apply Kept.alloc | refine Kept.trans ?_ (by assumption)))) (ZZ1.out.kept (by repeat (first | assumption | exact Kept.refl _ | apply Kept.drew | apply Kept.drewN | apply Kept.alloc | refine Kept.trans ?_ (by assumption)))) hBB.out).mono ?_; rintro e w5 ⟨v5, rfl, hN5, hK5⟩; obtain ⟨a5, k5, c5, rfl⟩ := natAt_slice hN5)
      (try go_wp2_with fail)
      have hK5' : Kept u3 w5 := by first | exact hK5 | exact Kept.trans ((Kept.refl _).drew) hK5 | exact Kept.trans ((Kept.refl _).drewN _) hK5
      have d05 := hK5'.cellSome d04
      have t05 := hK5'.cellSome t0
      have hR5 := hK5'.row HR4.out
      have f05 := hR5.frozen i
      have f15 := hR5.frozen j
      have HP5 := Lib.hid (HP4.out.kept hK5')
      have hX5 : KeptX (fun k => k = g) u3 w5 := hK5'.weaken (fun _ h => h.elim)
      have hX6 := hX5.setIn i (.slice a5 k5 c5)
      have d06 := KeptX.cellSome ((KeptX.refl (fun k => k = g) w5).setIn i (.slice a5 k5 c5)) d05 (show ¬ z0 = g from hzg)
      refine hK4.out _ _ ?_ (fun hHeld => ?_)
      · (try dsimp only)
        exact ⟨d05, hX5⟩
      (try simp only [Act.put, List.setIfInBounds_toArray, List.set_cons_zero, List.set_cons_succ])
      refine wpAnyH_take (i := 14) (oi := { dst := some 34, op := Go.Op.indexAddr 98 (Go.Operand.tmp 21) (Go.Operand.tmp 22), type := 0, pos := "load.go:111", after := #[{ on := 1, ground := Go.Ground.data }, { on := 2, ground := Go.Ground.data }, { on := 0, ground := Go.Ground.phase }, { on := 1, ground := Go.Ground.phase }, { on := 2, ground := Go.Ground.phase }, { on := 3, ground := Go.Ground.phase }, { on := 4, ground := Go.Ground.phase }, { on := 5, ground := Go.Ground.phase }, { on := 6, ground := Go.Ground.phase }, { on := 7, ground := Go.Ground.phase }, { on := 8, ground := Go.Ground.phase }, { on := 9, ground := Go.Ground.phase }, { on := 10, ground := Go.Ground.phase }, { on := 11, ground := Go.Ground.phase }, { on := 12, ground := Go.Ground.phase }, { on := 13, ground := Go.Ground.phase }], guard := none }) (v := ?v32) rfl (by kernel_rfl) (by kernel_rfl) (by kernel_rfl) (fun _ _ _ h => h) (Or.inl ⟨by rfl, ?hy32⟩) (by assumption) ?rs32
      case hy32 =>
        intro w hSw
        (try dsimp only at hSw)
        go_simp
        try with_reducible rfl
      (try simp only [Act.put, List.setIfInBounds_toArray, List.set_cons_zero, List.set_cons_succ])
      refine wpAnyH_ready (rs := [15]) (by kernel_rfl) (by simp) ?_
      refine AllReadyH.cons (o := { dst := none, op := Go.Op.store 130 (Go.Operand.tmp 34) (Go.Operand.tmp 33), type := 0, pos := "load.go:111", after := #[{ on := 14, ground := Go.Ground.data }, { on := 13, ground := Go.Ground.data }, { on := 13, ground := Go.Ground.chain }, { on := 0, ground := Go.Ground.phase }, { on := 1, ground := Go.Ground.phase }, { on := 2, ground := Go.Ground.phase }, { on := 3, ground := Go.Ground.phase }, { on := 4, ground := Go.Ground.phase }, { on := 5, ground := Go.Ground.phase }, { on := 6, ground := Go.Ground.phase }, { on := 7, ground := Go.Ground.phase }, { on := 8, ground := Go.Ground.phase }, { on := 9, ground := Go.Ground.phase }, { on := 10, ground := Go.Ground.phase }, { on := 11, ground := Go.Ground.phase }, { on := 12, ground := Go.Ground.phase }, { on := 13, ground := Go.Ground.phase }], guard := none }) rfl (fun K5 hK5z => ?_) AllReadyH.nil
      go_simp
      refine hK5z.out _ _ ?_ (fun hHeld => ?_)
      · (try dsimp only)
        exact ⟨d06, hX6⟩
      (try simp only [Act.put, List.setIfInBounds_toArray, List.set_cons_zero, List.set_cons_succ])
      refine wpAnyH_done (by kernel_rfl) ?_ _
      have HP6 := HP5.out.set i (by omega) hN5
      have hI6 := HP5.out.ints i (by omega) (.slice a5 k5 c5)
      have HP6h := Lib.hid HP6
      obtain ⟨P6, hR6, hnN6, hZ6⟩ := HP6
      have t16 := hR6.cell (show j < N by omega)
      have f16 := hR6.frozen j
      have HP7 := Lib.hid (HP6h.out.set j (by omega) (NatAt.nil _))
      have hI7 := HP6h.out.ints j (by omega) (.slice none 0 0)
      have HIA := Lib.hid (((Kept.ints (hKw.trans hK5')).trans hI6).trans hI7)
      have hX7 := hX6.setIn j (.slice none 0 0)
      clear hI6 hI7 hR6 hZ6 HP6h HP5 hR5 t05 f05 f15 hK5 hK5' hX5
      go_wp2_with fail
      go_end0
      refine ⟨rfl, KeptX.weaken (KeptX.trans (hKw.weaken (fun _ h => h.elim)) hX7) (fun _ h => h), HIA.out, ?_⟩
      rw [HU.out]
      exact HP7.out
    · skip
      go_simp
      refine hK3.out _ _ ?_ (fun hHeld => ?_)
      · (try dsimp only)
        first | exact ⟨d04, (KeptX.refl _ _)⟩ | exact ⟨d04, (KeptX.refl _ _).drew⟩ | exact ⟨d04, ((KeptX.refl _ _).drewN _)⟩ | exact ⟨d04, ((KeptX.refl _ _).drew).drew⟩
      (try simp only [Act.put, List.setIfInBounds_toArray, List.set_cons_zero, List.set_cons_succ])
      refine wpAnyH_ready (rs := [7]) (by kernel_rfl) (by simp) ?_
      refine AllReadyH.cons (o := { dst := some 27, op := Go.Op.load 130 (Go.Operand.tmp 26), type := 130, pos := "load.go:111", after := #[{ on := 6, ground := Go.Ground.data }], guard := none }) rfl (fun Kb hK2b => ?_) AllReadyH.nil
      go_simp
      refine hK2b.out _ _ ?_ (fun hHeld => ?_)
      · (try dsimp only)
        first | exact ⟨d04, (KeptX.refl _ _)⟩ | exact ⟨d04, (KeptX.refl _ _).drew⟩ | exact ⟨d04, ((KeptX.refl _ _).drewN _)⟩ | exact ⟨d04, ((KeptX.refl _ _).drew).drew⟩
      (try simp only [Act.put, List.setIfInBounds_toArray, List.set_cons_zero, List.set_cons_succ])
      refine wpAnyH_ready (rs := [13]) (by kernel_rfl) (by simp) ?_
      refine AllReadyH.cons (o := { dst := some 33, op := Go.Op.call { callee := Go.Callee.value (Go.Operand.func 85), args := #[Go.Operand.tmp 27, Go.Operand.tmp 32], argTypes := #[130, 130] }, type := 130, pos := "load.go:111", after := #[{ on := 7, ground := Go.Ground.data }, { on := 12, ground := Go.Ground.data }], guard := none }) rfl (fun K4 hK4 => ?_) AllReadyH.nil
      go_simp
      (go_at_call 85; refine (plus_any _ _ _ _ _ (ZZ0.out.kept (by repeat (first | assumption | exact Kept.refl _ | apply Kept.drew | apply Kept.drewN | apply Kept.alloc | refine Kept.trans ?_ (by assumption)))) (ZZ1.out.kept (by repeat (first | assumption | exact Kept.refl _ | apply Kept.drew | apply Kept.drewN | apply Kept.alloc | refine Kept.trans ?_ (by assumption)))) hBB.out).mono ?_; rintro e w5 ⟨v5, rfl, hN5, hK5⟩; obtain ⟨a5, k5, c5, rfl⟩ := natAt_slice hN5)
      (try go_wp2_with fail)
      have hK5' : Kept u3 w5 := by first | exact hK5 | exact Kept.trans ((Kept.refl _).drew) hK5 | exact Kept.trans ((Kept.refl _).drewN _) hK5
      have d05 := hK5'.cellSome d04
      have t05 := hK5'.cellSome t0
      have hR5 := hK5'.row HR4.out
      have f05 := hR5.frozen i
      have f15 := hR5.frozen j
      have HP5 := Lib.hid (HP4.out.kept hK5')
      have hX5 : KeptX (fun k => k = g) u3 w5 := hK5'.weaken (fun _ h => h.elim)
      have hX6 := hX5.setIn i (.slice a5 k5 c5)
      have d06 := KeptX.cellSome ((KeptX.refl (fun k => k = g) w5).setIn i (.slice a5 k5 c5)) d05 (show ¬ z0 = g from hzg)
      refine hK4.out _ _ ?_ (fun hHeld => ?_)
      · (try dsimp only)
        exact ⟨d05, hX5⟩
      (try simp only [Act.put, List.setIfInBounds_toArray, List.set_cons_zero, List.set_cons_succ])
      refine wpAnyH_take (i := 14) (oi := { dst := some 34, op := Go.Op.indexAddr 98 (Go.Operand.tmp 21) (Go.Operand.tmp 22), type := 0, pos := "load.go:111", after := #[{ on := 1, ground := Go.Ground.data }, { on := 2, ground := Go.Ground.data }, { on := 0, ground := Go.Ground.phase }, { on := 1, ground := Go.Ground.phase }, { on := 2, ground := Go.Ground.phase }, { on := 3, ground := Go.Ground.phase }, { on := 4, ground := Go.Ground.phase }, { on := 5, ground := Go.Ground.phase }, { on := 6, ground := Go.Ground.phase }, { on := 7, ground := Go.Ground.phase }, { on := 8, ground := Go.Ground.phase }, { on := 9, ground := Go.Ground.phase }, { on := 10, ground := Go.Ground.phase }, { on := 11, ground := Go.Ground.phase }, { on := 12, ground := Go.Ground.phase }, { on := 13, ground := Go.Ground.phase }], guard := none }) (v := ?v33) rfl (by kernel_rfl) (by kernel_rfl) (by kernel_rfl) (fun _ _ _ h => h) (Or.inl ⟨by rfl, ?hy33⟩) (by assumption) ?rs33
      case hy33 =>
        intro w hSw
        (try dsimp only at hSw)
        go_simp
        try with_reducible rfl
      (try simp only [Act.put, List.setIfInBounds_toArray, List.set_cons_zero, List.set_cons_succ])
      refine wpAnyH_ready (rs := [15]) (by kernel_rfl) (by simp) ?_
      refine AllReadyH.cons (o := { dst := none, op := Go.Op.store 130 (Go.Operand.tmp 34) (Go.Operand.tmp 33), type := 0, pos := "load.go:111", after := #[{ on := 14, ground := Go.Ground.data }, { on := 13, ground := Go.Ground.data }, { on := 13, ground := Go.Ground.chain }, { on := 0, ground := Go.Ground.phase }, { on := 1, ground := Go.Ground.phase }, { on := 2, ground := Go.Ground.phase }, { on := 3, ground := Go.Ground.phase }, { on := 4, ground := Go.Ground.phase }, { on := 5, ground := Go.Ground.phase }, { on := 6, ground := Go.Ground.phase }, { on := 7, ground := Go.Ground.phase }, { on := 8, ground := Go.Ground.phase }, { on := 9, ground := Go.Ground.phase }, { on := 10, ground := Go.Ground.phase }, { on := 11, ground := Go.Ground.phase }, { on := 12, ground := Go.Ground.phase }, { on := 13, ground := Go.Ground.phase }], guard := none }) rfl (fun K5 hK5z => ?_) AllReadyH.nil
      go_simp
      refine hK5z.out _ _ ?_ (fun hHeld => ?_)
      · (try dsimp only)
        exact ⟨d06, hX6⟩
      (try simp only [Act.put, List.setIfInBounds_toArray, List.set_cons_zero, List.set_cons_succ])
      refine wpAnyH_done (by kernel_rfl) ?_ _
      have HP6 := HP5.out.set i (by omega) hN5
      have hI6 := HP5.out.ints i (by omega) (.slice a5 k5 c5)
      have HP6h := Lib.hid HP6
      obtain ⟨P6, hR6, hnN6, hZ6⟩ := HP6
      have t16 := hR6.cell (show j < N by omega)
      have f16 := hR6.frozen j
      have HP7 := Lib.hid (HP6h.out.set j (by omega) (NatAt.nil _))
      have hI7 := HP6h.out.ints j (by omega) (.slice none 0 0)
      have HIA := Lib.hid (((Kept.ints (hKw.trans hK5')).trans hI6).trans hI7)
      have hX7 := hX6.setIn j (.slice none 0 0)
      clear hI6 hI7 hR6 hZ6 HP6h HP5 hR5 t05 f05 f15 hK5 hK5' hX5
      go_wp2_with fail
      go_end0
      refine ⟨rfl, KeptX.weaken (KeptX.trans (hKw.weaken (fun _ h => h.elim)) hX7) (fun _ h => h), HIA.out, ?_⟩
      rw [HU.out]
      exact HP7.out
end Go.Proofs.YtlnlddnjalfamaaGreatDoor
namespace Go.Proofs.YtlnlddnjalfamaaGreatDoor
open Go.RowKit Go.Deep

theorem CellsAt.at0 {w : World} {g n cap : Nat} {f : Nat → Value} (h : CellsAt w (.slice (some ⟨g, 0, none⟩) n cap) n f) (i : Nat) (hi : i < n) : w.cell? ⟨g, i, none⟩ = some (f i) := by
  obtain ⟨a, b, o, c, e, ha, hc⟩ := h
  injection e with e1 e2 e3
  have := ha (by omega)
  rw [← e1] at this
  injection this with this
  injection this with t1 t2
  subst t1
  subst t2
  have := hc i hi
  rwa [Nat.zero_add] at this
set_option maxRecDepth 100000 in
set_option maxHeartbeats 8000000 in
theorem shift_any (w : World) (g N n cap : Nat) (fa : Option Addr) (fl fc : Nat) (gh caph : Nat) (Z : Nat → Int) (H : Nat → Nat) (M : Int) (hP : PartsAt w g N n Z) (hS : SetsAt w (.slice (some ⟨gh, 0, none⟩) n caph) n H) (hH : ∀ t, t < n → H t < 65536) (hbit : ∀ t, t < n → ∀ b, (H t).testBit b = true → b < n) (hn : n ≤ 9)
    (hG : GoodZ Z n M) (hM : 10 * M < bigU) (hM0 : 0 ≤ M) :
    Calls Tryz.prog 55 #[.agg #[.slice (some ⟨g, 0, none⟩) n cap, .slice fa fl fc], .slice (some ⟨gh, 0, none⟩) n caph] w fun e w' => e = .returned (.tuple #[]) ∧ KeptX (fun k => k = g) w w' ∧ IntKept w w' ∧ PartsAt w' g N n (shiftZ H n Z n) := by
  obtain ⟨P0, hR0, hnN, hZ0⟩ := id hP
  have hgl : g < w.heap.size := hR0.lt
  have d0 : (w.alloc (.cells #[.slice (some ⟨g, 0, none⟩) n cap, .slice fa fl fc] 101)).cell? ⟨w.heap.size, 0, none⟩ = some (.slice (some ⟨g, 0, none⟩) n cap) := by unfold World.cell?; dsimp only; rw [blk_alloc_new]; rfl
  have d1 : (w.alloc (.cells #[.slice (some ⟨g, 0, none⟩) n cap, .slice fa fl fc] 101)).cell? ⟨w.heap.size, 1, none⟩ = some (.slice fa fl fc) := by unfold World.cell?; dsimp only; rw [blk_alloc_new]; rfl
  have hk0 : Kept w (w.alloc (.cells #[.slice (some ⟨g, 0, none⟩) n cap, .slice fa fl fc] 101)) := (Kept.refl w).alloc _
  have hP1 := hP.kept hk0
  have hS1 := CellsAt.kept hS hk0
  have HG := Lib.hid hG
  have HH := Lib.hid hH
  have HB := Lib.hid hbit
  clear hP hS hR0 hZ0 hG hH hbit
  go_enter Tryz.func55, Tryz.ntmps55
  go_wp2_with fail
  generalize w.alloc (.cells #[.slice (some ⟨g, 0, none⟩) n cap, .slice fa fl fc] 101) = W at *
  obtain ⟨z0, HZ0⟩ : ∃ z, Hid (z = w.heap.size) := ⟨_, rfl⟩
  rw [← HZ0.out] at d0 d1 ⊢
  have hzg : ¬ z0 = g := by rw [HZ0.out]; omega
  clear HZ0
  have SETS := Lib.hid (fun (wr : World) (k : IntKept W wr) => CellsAt.keptI hS1 (fun i _ => ⟨_, _, rfl⟩) k)
  have DD := Lib.hid (fun (wr : World) (k : KeptX (fun k => k = g) W wr) => And.intro (KeptX.cellSome k d0 (show ¬ z0 = g from hzg)) (KeptX.cellSome k d1 (show ¬ z0 = g from hzg)))
  have HK0 := Lib.hid hk0
  have HKI := Lib.hid (Kept.ints hk0)
  clear hS1 d0 d1 hk0
  go_loopg [8] n (fun mm s8 wr => ∃ i : Nat, i ≤ n ∧ mm = n - i ∧ s8 = .int .i64 i ∧ KeptX (fun k => k = g) W wr ∧ IntKept W wr ∧ PartsAt wr g N n (shiftZ H n Z i))
  case atStart => exact ⟨0, Nat.zero_le _, rfl, by first | rfl | go_num, KeptX.refl _ _, IntKept.refl _, hP1⟩
  case round =>
    clear hP1
    obtain ⟨i, hi, rfl, rfl, hK, hKi, hPa⟩ := hrel
    by_cases hlt : i < n
    · have s1 : (i : Int) < (n : Int) := by omega
      have s2 : (0 : Int) ≤ (i : Int) := by omega
      have hGi := Lib.hid (HG.out.shift H i hi)
      obtain ⟨Zi, HZi⟩ : ∃ Zi, Hid (Zi = shiftZ H n Z i) := ⟨_, rfl⟩
      have HZn : Hid (shiftZ H n Z (i + 1) = rowZ H i Zi (n - (i + 1))) := by show _ = _; rw [HZi.out]; rfl
      rw [← HZi.out] at hPa hGi
      clear HZi
      go_wp2_with fail
      go_loopg [5] (n - (i + 1)) (fun mm s5 wi => ∃ k : Nat, i + 1 + k ≤ n ∧ mm = n - (i + 1) - k ∧ s5 = .int .i64 ((i : Int) + 1 + (k : Int)) ∧ KeptX (fun k => k = g) W wi ∧ IntKept W wi ∧ PartsAt wi g N n (rowZ H i Zi k))
      case atStart => exact ⟨0, by omega, rfl, by first | rfl | go_num, hK, hKi, hPa⟩
      case round =>
        clear hK hKi hPa
        obtain ⟨k, hk, rfl, rfl, hK, hKi, hPa⟩ := hrel
        obtain ⟨j, hj⟩ : ∃ j, j = i + 1 + k := ⟨_, rfl⟩
        have ej : (i : Int) + 1 + (k : Int) = (j : Int) := by omega
        rw [ej]
        by_cases hlt2 : j < n
        · have s3 : (j : Int) < (n : Int) := by omega
          have s4 : (0 : Int) ≤ (j : Int) := by omega
          have hGc := Lib.hid (hGi.out.row H k hk)
          have HZk : Hid (rowZ H i Zi (k + 1) = stepZ H (rowZ H i Zi k) i j) := by show _ = _; rw [hj]; rfl
          obtain ⟨Zc, HZc⟩ : ∃ Zc, Hid (Zc = rowZ H i Zi k) := ⟨_, rfl⟩
          rw [← HZc.out] at hGc HZk hPa
          have hkn : Hid (i + 1 + (k + 1) ≤ n) := by show _ ≤ _; omega
          have hm1 : Hid (n - (i + 1) - (k + 1) < n - (i + 1) - k) := by show _ < _; omega
          have hj1 : Hid ((j : Int) + 1 = (i : Int) + 1 + ((k + 1 : Nat) : Int)) := by show _ = _; omega
          have hPh := Lib.hid hPa
          obtain ⟨P, hR, _, hZ⟩ := hPa
          have ti := hR.cell (show i < N by omega)
          have tj := hR.cell (show j < N by omega)
          have zi := hZ i (by omega)
          have zj := hZ j (by omega)
          have hsi := CellsAt.at0 (SETS.out wr hKi) i hlt
          have hd := DD.out wr hK
          obtain ⟨dd0, dd1⟩ := hd
          obtain ⟨a1, k1, c1, e1⟩ := natAt_slice zi
          obtain ⟨a2, k2, c2, e2⟩ := natAt_slice zj
          rw [e1] at ti zi
          rw [e2] at tj zj
          have HA := Lib.hid (fun W => has_any W (H i) j (HH.out i hlt) (by omega))
          have IZi := Lib.hid (isZero_any wr _ _ zi)
          have IZj := Lib.hid (isZero_any wr _ _ zj)
          have UN := Lib.hid (unite_any wr g N n cap fa fl fc _ i j Zc H M hPh.out (SETS.out wr hKi) hlt hlt2 HH.out HB.out hn hGc.out hM hM0)
          obtain ⟨hI, HHI⟩ : ∃ hI, Hid (hI = H i) := ⟨_, rfl⟩
          rw [← HHI.out] at hsi HA
          clear e1 e2 zi zj hR hZ HZc hj ej
          by_cases hb : hI.testBit j = true
          · have e9 : Hid (stepZ H Zc i j = Zc) := by show _ = _; unfold stepZ; rw [← HHI.out, if_pos hb]
            simp only [hb] at HA
            clear HHI hb IZi IZj UN
            go_wp2_with (first | (go_at_call 73; refine (HA.out _).mono ?_; rintro e w2 ⟨rfl, rfl⟩))
            go_roundg (n - (i + 1) - (k + 1))
            case measure => exact hm1.out
            case rel => exact ⟨k + 1, hkn.out, rfl, by rw [← hj1.out], hK, hKi, by rw [HZk.out, e9.out]; exact hPh.out⟩
          · have hb2 : hI.testBit j = false := by simpa using hb
            by_cases h0 : Zc i = 0
            · have e9 : Hid (stepZ H Zc i j = Zc) := by show _ = _; unfold stepZ; rw [← HHI.out, if_neg hb, if_pos h0]
              simp only [hb2] at HA
              simp only [decide_eq_true h0] at IZi
              clear HHI hb hb2 h0 UN IZj
              go_wp2_with (first | (go_at_call 73; refine (HA.out _).mono ?_; rintro e w2 ⟨rfl, rfl⟩) | (go_at_call 88; refine IZi.out.mono ?_; clear IZi; rintro e w3 ⟨rfl, rfl⟩))
              go_roundg (n - (i + 1) - (k + 1))
              case measure => exact hm1.out
              case rel => exact ⟨k + 1, hkn.out, rfl, by rw [← hj1.out], hK, hKi, by rw [HZk.out, e9.out]; exact hPh.out⟩
            · by_cases h1 : Zc j = 0
              · have e9 : Hid (stepZ H Zc i j = Zc) := by show _ = _; unfold stepZ; rw [← HHI.out, if_neg hb, if_neg h0, if_pos h1]
                simp only [hb2] at HA
                simp only [decide_eq_false h0] at IZi
                simp only [decide_eq_true h1] at IZj
                clear HHI hb hb2 h0 h1 UN
                go_wp2_with (first | (go_at_call 73; refine (HA.out _).mono ?_; rintro e w2 ⟨rfl, rfl⟩) | (go_at_call 88; refine IZi.out.mono ?_; clear IZi; rintro e w3 ⟨rfl, rfl⟩) | (go_at_call 88; refine IZj.out.mono ?_; rintro e w4 ⟨rfl, rfl⟩))
                go_roundg (n - (i + 1) - (k + 1))
                case measure => exact hm1.out
                case rel => exact ⟨k + 1, hkn.out, rfl, by rw [← hj1.out], hK, hKi, by rw [HZk.out, e9.out]; exact hPh.out⟩
              · have e9 : Hid (stepZ H Zc i j = uniteZ Zc H i j) := by show _ = _; unfold stepZ; rw [← HHI.out, if_neg hb, if_neg h0, if_neg h1]
                simp only [hb2] at HA
                simp only [decide_eq_false h0] at IZi
                simp only [decide_eq_false h1] at IZj
                clear HHI hb hb2 h0 h1
                go_wp2_with (first | (go_at_call 73; refine (HA.out _).mono ?_; rintro e w2 ⟨rfl, rfl⟩) | (go_at_call 88; refine IZi.out.mono ?_; clear IZi; rintro e w3 ⟨rfl, rfl⟩) | (go_at_call 88; refine IZj.out.mono ?_; rintro e w4 ⟨rfl, rfl⟩) | (go_at_call 89; refine UN.out.mono ?_; rintro e w5 ⟨rfl, hX5, hI5, hP5⟩))
                go_roundg (n - (i + 1) - (k + 1))
                case measure => exact hm1.out
                case rel => exact ⟨k + 1, hkn.out, rfl, by rw [← hj1.out], hK.trans hX5, hKi.trans hI5, by rw [HZk.out, e9.out]; exact hP5⟩
        · have hkj : i + 1 + k = n := by omega
          have s3 : ¬ (j : Int) < (n : Int) := by omega
          have HZl : Hid (rowZ H i Zi k = shiftZ H n Z (i + 1)) := by show _ = _; rw [HZn.out, show n - (i + 1) = k by omega]
          have HPl : Hid (PartsAt wr g N n (shiftZ H n Z (i + 1))) := by show PartsAt _ _ _ _ _; rw [← HZl.out]; exact hPa
          clear hPa HZl hj ej hkj
          go_wp2_with fail
          go_roundg (n - (i + 1))
          case measure => omega
          case rel => exact ⟨i + 1, by omega, rfl, by first | rfl | go_num, hK, hKi, HPl.out⟩
    · obtain rfl : i = n := by omega
      have s1 : ¬ (i : Int) < (i : Int) := by omega
      go_wp2_with fail
      go_end0
      exact ⟨rfl, KeptX.weaken (KeptX.trans (HK0.out.weaken (fun _ h => h.elim)) hK) (fun _ h => h), HKI.out.trans hKi, hPa⟩
end Go.Proofs.YtlnlddnjalfamaaGreatDoor
