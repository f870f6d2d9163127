/-
  The reference's Far, and the table of the reference's Rest.
-/
import Derived.Test.YtomnjcjipdnnfaaFo
import Derived.Test.YtomnjcjipdnnfaaCu
namespace Go.Proofs.Ytomnjcjipdnnfaa
open Go.RowKit Go.Deep

set_option maxRecDepth 100000 in
set_option maxHeartbeats 1000000 in
theorem far_any (w : World) (x y u v : Int) (hx : pl x) (hy : pl y) (hu : pl u) (hv : pl v) :
    Calls Try.prog 51 #[.agg #[.int .i64 x, .int .i64 y], .agg #[.int .i64 u, .int .i64 v]] w fun e w' => e = .returned (.int .i64 (dist x y u v)) ∧ Kept w w' := by
  have hb := dist_bd hx hy hu hv
  have HB : Hid (dist x y u v = (x - u) * (x - u) + (y - v) * (y - v)) := rfl
  unfold pl at *
  have h1 := sq_le (a := x - u) (c := 2000) (by omega) (by omega)
  have h2 := sq_le (a := y - v) (c := 2000) (by omega) (by omega)
  obtain ⟨p0, p1⟩ := box2 w (.int .i64 x) (.int .i64 y) 78
  obtain ⟨q0, q1⟩ := blk_at (w.alloc (.cells #[.int .i64 x, .int .i64 y] 78)) (.int .i64 u) (.int .i64 v) 78 (w.heap.size + 1) (by simp)
  have hk1 := (Kept.refl (w.alloc (.cells #[.int .i64 x, .int .i64 y] 78))).alloc (.cells #[.int .i64 u, .int .i64 v] 78)
  have hk0 : Kept w ((w.alloc (.cells #[.int .i64 x, .int .i64 y] 78)).alloc (.cells #[.int .i64 u, .int .i64 v] 78)) := ((Kept.refl w).alloc _).alloc _
  have r0 := hk1.cellSome p0
  have r1 := hk1.cellSome p1
  clear p0 p1 hk1
  go_enter Try.func51, Try.ntmps51
  go_wp2_with fail
  go_ret
  exact ⟨ret_int HB.out.symm, hk0⟩
/-- the best of the first c candidates so far: is there one, and which value -/
def rb (m n : Nat) (L : Nat → Nat → Int) (i j : Nat) : Nat → Bool × Int
  | 0 => (false, 0)
  | c + 1 => if (cand i j c).1 < m ∧ (cand i j c).2 < n ∧ ((rb m n L i j c).1 = false ∨ L (cand i j c).1 (cand i j c).2 < (rb m n L i j c).2) then (true, L (cand i j c).1 (cand i j c).2) else rb m n L i j c
theorem rb_skip {m n i j c : Nat} {L : Nat → Nat → Int} (h : ¬ ((cand i j c).1 < m ∧ (cand i j c).2 < n)) : rb m n L i j (c + 1) = rb m n L i j c := by
  rw [rb]; exact if_neg (fun h2 => h ⟨h2.1, h2.2.1⟩)
theorem rb_take {m n i j c : Nat} {L : Nat → Nat → Int} (h1 : (cand i j c).1 < m) (h2 : (cand i j c).2 < n) (h3 : (rb m n L i j c).1 = false ∨ L (cand i j c).1 (cand i j c).2 < (rb m n L i j c).2) : rb m n L i j (c + 1) = (true, L (cand i j c).1 (cand i j c).2) := by
  rw [rb]; exact if_pos ⟨h1, h2, h3⟩
theorem rb_keep {m n i j c : Nat} {L : Nat → Nat → Int} (h1 : (rb m n L i j c).1 = true) (h2 : ¬ L (cand i j c).1 (cand i j c).2 < (rb m n L i j c).2) : rb m n L i j (c + 1) = rb m n L i j c := by
  rw [rb]; exact if_neg (fun h => by rcases h.2.2 with h | h; (rw [h1] at h; cases h); exact h2 h)
theorem rb_last {m n i j : Nat} {L : Nat → Nat → Int} (h1 : i + 1 = m) (h2 : j + 1 = n) : rb m n L i j 3 = (false, 0) := by
  rw [rb_skip (by rw [cand2]; simp only; omega), rb_skip (by rw [cand1]; simp only; omega), rb_skip (by rw [cand0]; simp only; omega)]; rfl
theorem rb_best {m n i j : Nat} {L : Nat → Nat → Int} (hi : i < m) (hj : j < n) (hl : ¬ (i + 1 = m ∧ j + 1 = n)) : rb m n L i j 3 = (true, best3 m n L i j) := by
  unfold best3
  by_cases h1 : j + 1 < n
  · have e1 : rb m n L i j 1 = (true, L i (j + 1)) := rb_take (c := 0) hi h1 (.inl rfl)
    by_cases h2 : i + 1 < m
    · rw [if_pos h1, if_pos h2]
      by_cases c1 : L (i + 1) j < L i (j + 1)
      · have e2 : rb m n L i j 2 = (true, L (i + 1) j) := rb_take (c := 1) h2 hj (.inr (by rw [e1]; exact c1))
        by_cases c2 : L (i + 1) (j + 1) < L (i + 1) j
        · rw [rb_take (c := 2) h2 h1 (.inr (by rw [e2]; exact c2)), cand2]
          congr 1; simp only; omega
        · rw [rb_keep (by rw [e2]) (by rw [e2]; exact c2), e2]
          congr 1; omega
      · have e2 : rb m n L i j 2 = (true, L i (j + 1)) := by rw [rb_keep (by rw [e1]) (by rw [e1]; exact c1), e1]
        by_cases c2 : L (i + 1) (j + 1) < L i (j + 1)
        · rw [rb_take (c := 2) h2 h1 (.inr (by rw [e2]; exact c2)), cand2]
          congr 1; simp only; omega
        · rw [rb_keep (by rw [e2]) (by rw [e2]; exact c2), e2]
          congr 1; omega
    · rw [if_pos h1, if_neg h2, rb_skip (by rw [cand2]; simp only; omega), rb_skip (by rw [cand1]; simp only; omega), e1]
  · rw [if_neg h1]
    have h2 : i + 1 < m := by omega
    have e1 : rb m n L i j 1 = (false, 0) := rb_skip (by rw [cand0]; simp only; omega)
    have e2 : rb m n L i j 2 = (true, L (i + 1) j) := rb_take (c := 1) h2 hj (.inl (by rw [e1]))
    rw [rb_skip (by rw [cand2]; simp only; omega), e2]
/-- a table whose rows lie apart -/
structure RTab (base : Nat) (w : World) (m n lb : Nat) (br : Nat → Nat) (Z : Nat → Nat → Int) : Prop where
  top : ∀ k, k < m → w.cell? ⟨lb, k, none⟩ = some (.slice (some ⟨br k, 0, none⟩) n n)
  row : ∀ k, k < m → w.rowIs (br k) 3 n (fun q => .int .i64 (Z k q))
  br0 : ∀ k, k < m → base ≤ br k
  ne : ∀ k, k < m → br k ≠ lb
  inj : ∀ k l, k < m → l < m → k ≠ l → br k ≠ br l
theorem RTab.kept {base : Nat} {w w' : World} {m n lb : Nat} {br : Nat → Nat} {Z : Nat → Nat → Int} (h : RTab base w m n lb br Z) (k : Kept w w') : RTab base w' m n lb br Z :=
  ⟨fun i hi => k.cellSome (h.top i hi), fun i hi => k.row (h.row i hi), h.br0, h.ne, h.inj⟩
theorem RTab.at {base : Nat} {w : World} {m n lb : Nat} {br : Nat → Nat} {Z : Nat → Nat → Int} (h : RTab base w m n lb br Z) {p q : Nat} (hp : p < m) (hq : q < n) : w.cell? ⟨br p, q, none⟩ = some (.int .i64 (Z p q)) := (h.row p hp).cell hq
theorem RTab.put {base : Nat} {w : World} {m n lb : Nat} {br : Nat → Nat} {Z : Nat → Nat → Int} (h : RTab base w m n lb br Z) {i j : Nat} (hi : i < m) (v : Int) : RTab base (w.setCell ⟨br i, j, none⟩ (.int .i64 v)) m n lb br (fun p q => if p = i ∧ q = j then v else Z p q) :=
  ⟨fun k hk => (World.cell?_setCell_far _ _ _ _ (h.ne i hi)).trans (h.top k hk), fun k hk => by
    by_cases e : k = i
    · subst e
      exact ((h.row k hk).set j _).congr (fun q _ => by by_cases e2 : q = j <;> simp [e2])
    · exact ((h.row k hk).setOther (a := ⟨br i, j, none⟩) (h.inj k i hk hi e) _).congr (fun q _ => by simp [e]), h.br0, h.ne, h.inj⟩
end Go.Proofs.Ytomnjcjipdnnfaa
