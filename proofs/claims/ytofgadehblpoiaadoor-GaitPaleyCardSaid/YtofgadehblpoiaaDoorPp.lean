/-
  Matrices of signs that are right, in plain numbers: Paley's and Sylvester's; what leaves them right.
-/
import Derived.Test.YtofgadehblpoiaaDoorXe
import Derived.Test.YtofgadehblpoiaaDoorVa
import Derived.Test.YtofgadehblpoiaaDoorXc
import Derived.Test.YtofgadehblpoiaaDoorGg
namespace Go.Proofs.YtofgadehblpoiaaDoor
open Go.RowKit Go.Deep Go.Shelf

/-- Paley's matrix by a table of the row -/
def palT (n T i j : Nat) : Bool := if i = 0 then false else if j = 0 then true else T.testBit ((n + j - i) % n)
theorem pal_table {n T : Nat} (hn : 0 < n) (h : ∀ i, i < n → legP n i = T.testBit i) (i j : Nat) : palP n i j = palT n T i j := by
  unfold palP palT
  rw [h _ (Nat.mod_lt _ hn)]
theorem pal_right {n T : Nat} (hn : 0 < n) (h : allN (fun i => legP n i == T.testBit i) n = true) (h2 : rgtB (n + 1) (palT n T) = true) : Rgt (n + 1) (palP n) := by
  have e : (palP n : Nat → Nat → Bool) = palT n T := by funext i j; exact pal_table hn (fun i hi => eq_of_beq (allN_true.1 h i hi)) i j
  rw [e]
  exact rgtB_iff.1 h2
theorem right3 : Rgt 4 (palP 3) := pal_right (T := 4) (by decide) (by decide +kernel) (by decide +kernel)
theorem right7 : Rgt 8 (palP 7) := pal_right (T := 104) (by decide) (by decide +kernel) (by decide +kernel)
theorem right11 : Rgt 12 (palP 11) := pal_right (T := 1476) (by decide) (by decide +kernel) (by decide +kernel)
theorem right19 : Rgt 20 (palP 19) := pal_right (T := 324876) (by decide) (by decide +kernel) (by decide +kernel)
theorem right23 : Rgt 24 (palP 23) := pal_right (T := 8047776) (by decide) (by decide +kernel) (by decide +kernel)
theorem right31 : Rgt 32 (palP 31) := pal_right (T := 1843574856) (by decide) (by decide +kernel) (by decide +kernel)
theorem rightS {k : Nat} (hk : k ≤ 6) : Rgt (2 ^ k) (fun i j => par i j) := fun i m hm hi => by
  have h := orth (k := k) (i := i) (m := m) hk hi (by omega)
  rw [if_neg (by omega)] at h
  unfold lkN
  rw [← h]
  exact sumZ_congr fun j _ => Int.mul_comm _ _
def prS (k : Nat) : Nat := if k = 0 then 3 else if k = 1 then 7 else if k = 2 then 11 else if k = 3 then 19 else if k = 4 then 23 else 31
/-- the matrix that the law begins with -/
def sizK (k : Nat) : Nat := if k < 6 then prS k + 1 else 2 ^ (k - 6)
def matK (k : Nat) : Nat → Nat → Bool := if k < 6 then palP (prS k) else fun i j => par i j
theorem sizK_tab : ∀ k : Fin 12, 1 ≤ sizK k.val ∧ sizK k.val ≤ 32 := by decide +kernel
theorem matK_right {k : Nat} (hk : k < 12) : Rgt (sizK k) (matK k) := by
  unfold sizK matK
  by_cases h : k < 6
  · rw [if_pos h, if_pos h]
    have : k = 0 ∨ k = 1 ∨ k = 2 ∨ k = 3 ∨ k = 4 ∨ k = 5 := by omega
    rcases this with rfl | rfl | rfl | rfl | rfl | rfl
    · exact right3
    · exact right7
    · exact right11
    · exact right19
    · exact right23
    · exact right31
  · rw [if_neg h, if_neg h]
    exact rightS (by omega)
theorem palOk_tab : ∀ k : Fin 6, palOk (prS k.val : Int) = true := by decide +kernel
/-- what leaves a matrix right -/
theorem Rgt.swap {n : Nat} {M : Nat → Nat → Bool} (h : Rgt n M) {a c : Nat} (ha : a < n) (hc : c < n) : Rgt n (fun i => M (swp a c i)) := fun i k hk hi => by
  refine h.off (swp_lt ha hc hi) (swp_lt ha hc (by omega)) (fun e => ?_)
  have := congrArg (swp a c) e
  rw [swp_swp, swp_swp] at this
  omega
def negM (a : Nat) (M : Nat → Nat → Bool) (i : Nat) : Nat → Bool := if i = a then fun j => !M i j else M i
theorem lkN_neg (p q : Nat → Bool) (n : Nat) : lkN (fun j => !p j) q n = - lkN p q n := by
  unfold lkN
  rw [← sumZ_neg]
  exact sumZ_congr fun i _ => by (try dsimp only); rw [sg_not, Int.neg_mul]
theorem Rgt.neg {n : Nat} {M : Nat → Nat → Bool} (h : Rgt n M) (a : Nat) : Rgt n (negM a M) := fun i k hk hi => by
  have h0 := h i k hk hi
  unfold negM
  by_cases e1 : i = a
  · rw [if_pos e1, if_neg (by omega), lkN_neg, h0]; rfl
  · rw [if_neg e1]
    by_cases e2 : k = a
    · rw [if_pos e2, lkN_comm, lkN_neg, lkN_comm, h0]; rfl
    · rw [if_neg e2]; exact h0
theorem lkN_twist (p q r : Nat → Bool) (a b : Bool) (n : Nat) : lkN (fun j => (p j ^^ r j) ^^ a) (fun j => (q j ^^ r j) ^^ b) n = sg a * sg b * lkN p q n := by
  unfold lkN
  rw [← sumZ_mul]
  exact sumZ_congr fun j _ => by
    (try dsimp only)
    cases p j <;> cases q j <;> cases r j <;> cases a <;> cases b <;> rfl
theorem Rgt.normal {n : Nat} {M : Nat → Nat → Bool} (h : Rgt n M) : Rgt n (norP M) := fun i k hk hi => by
  have := lkN_twist (M i) (M k) (M 0) (M i 0 ^^ M 0 0) (M k 0 ^^ M 0 0) n
  rw [h i k hk hi, Int.mul_zero] at this
  exact this
theorem norP_col (M : Nat → Nat → Bool) (i : Nat) : norP M i 0 = false := by unfold norP; exact Bool.xor_self _
theorem norP_row (M : Nat → Nat → Bool) (i : Nat) : norP M 0 i = false := by unfold norP; rw [Bool.xor_self, Bool.xor_self]; rfl
theorem nor_mn {n : Nat} (M : Nat → Nat → Bool) (i : Nat) : norS n (fun i => mn (rowS n (M i))) i = rowS n (norP M i) := by
  unfold norS
  refine rowS_congr fun j hj => ?_
  unfold norP
  (try dsimp only)
  rw [mn_rowS hj, mn_rowS hj, mn_rowS (by omega), mn_rowS (by omega)]
/-- a matrix of the call's own: its rows lie at g -/
def MatAt (w : World) (base g : Nat) (n : Nat) (M : Nat → Nat → Bool) : Prop := base ≤ g ∧ ∃ (N : Nat) (F : Nat → Value), n ≤ N ∧ w.rowIs g 9 N F ∧ ∀ i, i < n → F i = .string (rowS n (M i))
theorem MatAt.strs {w : World} {base g n cap : Nat} {M : Nat → Nat → Bool} (h : MatAt w base g n M) : StrsAt w (.slice (some ⟨g, 0, none⟩) n cap) n (fun i => rowS n (M i)) := by
  obtain ⟨_, N, F, hN, hr, hF⟩ := h
  exact ⟨_, g, 0, cap, rfl, fun _ => rfl, fun i hi => by rw [Nat.zero_add, hr.cell (by omega), hF i hi]⟩
theorem MatAt.kept {w w' : World} {base g n : Nat} {M : Nat → Nat → Bool} (h : MatAt w base g n M) (k : Kept w w') : MatAt w' base g n M := by
  obtain ⟨h0, N, F, hN, hr, hF⟩ := h
  exact ⟨h0, N, F, hN, k.row hr, hF⟩
theorem MatAt.cell {w : World} {base g n : Nat} {M : Nat → Nat → Bool} (h : MatAt w base g n M) {i : Nat} (hi : i < n) : w.cell? ⟨g, i, none⟩ = some (.string (rowS n (M i))) := by
  obtain ⟨_, N, F, hN, hr, hF⟩ := h
  rw [hr.cell (by omega), hF i hi]
theorem MatAt.frozen {w : World} {base g n : Nat} {M : Nat → Nat → Bool} (h : MatAt w base g n M) (i : Nat) : w.frozen? ⟨g, i, none⟩ = false := by
  obtain ⟨_, N, F, hN, hr, hF⟩ := h
  exact hr.frozen i
theorem MatAt.set {w : World} {base g n : Nat} {M M' : Nat → Nat → Bool} (h : MatAt w base g n M) {a : Nat} (ha : a < n) {T : ByteArray} (hT : T = rowS n (M' a)) (hM : ∀ i, i < n → i ≠ a → rowS n (M i) = rowS n (M' i)) : MatAt (w.setCell ⟨g, a, none⟩ (.string T)) base g n M' := by
  obtain ⟨h0, N, F, hN, hr, hF⟩ := h
  refine ⟨h0, N, _, hN, hr.set a (.string T), fun i hi => ?_⟩
  (try dsimp only)
  by_cases e : i = a
  · subst e; rw [if_pos rfl, hT]
  · rw [if_neg e, hF i hi, hM i hi e]
theorem MatAt.own {w : World} {base base' n g cap : Nat} {M : Nat → Nat → Bool} (h : w.ownsRow base 9 1 (.slice (some ⟨g, 0, none⟩) n cap) n (Go.Proofs.YtofgadehblpoiaaDoor.strs (fun i => rowS n (M i)) n)) (hb : base' ≤ base) : MatAt w base' g n M := by
  obtain ⟨N, f, h1, h2, h3, h4⟩ := own_row1 h
  exact ⟨Nat.le_trans hb h3, N, f, h2, h1, h4⟩
end Go.Proofs.YtofgadehblpoiaaDoor
