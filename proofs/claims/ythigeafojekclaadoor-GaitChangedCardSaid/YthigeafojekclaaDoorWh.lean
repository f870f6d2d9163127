/-
  What Like and Merit say of a row.
-/
import Derived.Test.YthigeafojekclaaDoorWd
import Derived.Test.YthigeafojekclaaDoorUj
import Derived.Test.YthigeafojekclaaDoorBk
namespace Go.Proofs.YthigeafojekclaaDoor
open Go.RowKit Go.Deep Go.Shelf

theorem lit3s (W : World) (a b c : ByteArray) (f : Nat → ByteArray) (h0 : f 0 = a) (h1 : f 1 = b) (h2 : f 2 = c) : ∀ i, i < 3 → (W.alloc (.cells #[.string a, .string b, .string c] 9)).cell? ⟨W.heap.size, i, none⟩ = some (.string (f i)) := by
  intro i hi
  have : i = 0 ∨ i = 1 ∨ i = 2 := by omega
  rcases this with rfl | rfl | rfl
  · rw [h0]; unfold World.cell?; dsimp only; rw [blk_alloc_new]; rfl
  · rw [h1]; unfold World.cell?; dsimp only; rw [blk_alloc_new]; rfl
  · rw [h2]; unfold World.cell?; dsimp only; rw [blk_alloc_new]; rfl
/-- Merit of a row, and whether its answer is a number -/
theorem merit_row {m : Nat} (h1 : 1 ≤ m) (h2 : m ≤ 64) (p : Nat → Bool) : ∃ (M : ByteArray) (F : Int) (vb : Bool), (vb = true ∨ vb = false ∧ F = 5) ∧ (∀ W q, PowAt W → sqN m q = sqN m p → Calls Tryd.prog 8 #[.string (rowS m q)] W fun e w' => e = .returned (.tuple #[.string M, .int .i64 F]) ∧ Kept W w') ∧ (∀ W, Calls Tryd.prog 20 #[.string M] W (Num.ValPost vb W)) := by
  have hsl := sqN_le p h2
  have hme : ∀ W q, PowAt W → sqN m q = sqN m p → Calls Tryd.prog 8 #[.string (rowS m q)] W (MeritAns W (rowS m q) (sqN m p)) := fun W q hW hq => by
    have hb : m * m ≤ 64 * 64 := Nat.mul_le_mul h2 h2
    have h := Merit_any W (rowS m q) (by rw [rowS_size]; omega) (fun _ _ => by
      rw [sqS_row, rowS_size, hq]
      have g1 := Nat.div_le_self (m * m) (Nat.gcd (2 * (sqN m p).toNat) (m * m))
      have g2 := Nat.div_le_self (2 * (sqN m p).toNat) (Nat.gcd (2 * (sqN m p).toNat) (m * m))
      exact ⟨ItoaOk.any hW _ (by omega), ItoaOk.any hW _ (by omega)⟩)
    rwa [sqS_row, hq] at h
  by_cases h0 : sqN m p = 0
  · refine ⟨⟨#[]⟩, 5, false, Or.inr ⟨rfl, rfl⟩, fun W q hW hq => ?_, fun W => Num.Valid_none W⟩
    refine (hme W q hW hq).mono ?_
    rintro e w' ⟨hk, h⟩
    rw [if_pos (rowC_rowS h1 h2), if_pos h0] at h
    exact ⟨h, hk⟩
  · obtain ⟨S, hS⟩ : ∃ S : Nat, sqN m p = S := ⟨(sqN m p).toNat, by omega⟩
    have hnn : m * m ≤ 64 * 64 := Nat.mul_le_mul h2 h2
    have hnn1 : 1 ≤ m * m := Nat.mul_le_mul h1 h1
    obtain ⟨qx, qy, lx, ly, hqx, hqy, q1, q2, q3, q4, q5, q6, q7, q8, q9, hquo⟩ := quo_num (a := m * m) (b := 2 * S) (by omega) (by omega) (by omega) (by omega)
    refine ⟨quoS (m * m) (2 * S), 0, true, Or.inl rfl, fun W q hW hq => ?_, fun W => ?_⟩
    · refine (hme W q hW hq).mono ?_
      rintro e w' ⟨hk, h⟩
      rw [if_pos (rowC_rowS h1 h2), if_neg h0, rowS_size, hS, Int.toNat_natCast] at h
      exact ⟨h, hk⟩
    · rw [hquo]
      exact Num.ValidF_any W qx qy lx ly q5 q1 q2 q3 q4 q6 q7 q8 q9
theorem like_row {m : Nat} (h1 : 1 ≤ m) (h2 : m ≤ 64) (W : World) (q : Nat → Bool) : Calls Tryd.prog 6 #[.string (rowS m q)] W fun e w' => ∃ r, e = .returned (.tuple #[.slice (some ⟨r, 0, none⟩) m m, .int .i64 0]) ∧ Kept W w' ∧ ∀ i, i < m → w'.cell? ⟨r, i, none⟩ = some (.int .i64 (likeN m q i)) := by
  have h := Like_any W (rowS m q) (by rw [rowS_size]; omega)
  rw [rowS_size] at h
  refine h.mono ?_
  rintro e w' ⟨hk, g⟩
  rw [if_pos (rowC_rowS h1 h2), rowS_size] at g
  obtain ⟨r, rfl, _, hr⟩ := g
  refine ⟨r, rfl, hk, fun i hi => ?_⟩
  have hc := CellsAt.of_row (cap := m) hr
  obtain ⟨a, b, o, cap, e, ha, hcell⟩ := hc
  injection e with e1 e2 e3
  have := ha (by omega)
  rw [← e1] at this
  injection this with this
  injection this with t1 t2
  subst t1
  subst t2
  have := hcell i hi
  dsimp only at this
  rw [Nat.zero_add, likeS_row m i q (by omega)] at this
  exact this
end Go.Proofs.YthigeafojekclaaDoor
