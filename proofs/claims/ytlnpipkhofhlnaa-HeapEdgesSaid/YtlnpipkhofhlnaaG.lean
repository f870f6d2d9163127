/-
  The program's yards are made, more: join.
-/
import Derived.Test.YtlnpipkhofhlnaaF
namespace Go.Proofs.Ytlnpipkhofhlnaa
open Go.RowKit Go.Deep

def ybox (n m bd bj : Nat) (i : Nat) : Value := if i = 0 then .int .i64 n else if i = 1 then .int .i64 m else if i = 2 then .slice (some ⟨bd, 0, none⟩) n n else .slice (some ⟨bj, 0, none⟩) n n
theorem YBox.of_row {w : World} {bx n m bd bj : Nat} {t : TypeId} (h : w.rowIs bx t 4 (ybox n m bd bj)) : YBox w bx n m bd bj :=
  ⟨h.cell (i := 0) (by omega), h.cell (i := 1) (by omega), h.cell (i := 2) (by omega), h.cell (i := 3) (by omega)⟩
def joinD (D : Nat → Nat) (a b : Nat) : Nat → Nat := fun v => D v + (if v = a then 1 else 0) + (if v = b then 1 else 0)
def joinJ (J : Nat → Nat → Nat) (a b : Nat) : Nat → Nat → Nat := fun i j => J i j + (if i = a ∧ j = b ∨ i = b ∧ j = a then 1 else 0)

set_option maxRecDepth 100000 in
set_option maxHeartbeats 4000000 in
theorem join_any (w : World) (base bx n m bd bj : Nat) (br D : Nat → Nat) (J : Nat → Nat → Nat) (a b : Nat) (ai bi : Int) (hai : ai = (a : Int)) (hbi : bi = (b : Int)) (ha : a < n) (hb : b < n) (hab : a ≠ b) (hY : YardOwn base w n bd bj br D J) (hbx : w.rowIs bx 78 4 (ybox n m bd bj))
    (hm : m ≤ 1000) (h0 : base ≤ bx) (h1 : bx ≠ bd) (h2 : bx ≠ bj) (h3 : ∀ i, i < n → bx ≠ br i) (hD : ∀ i, i < n → D i ≤ 1000) (hJ : ∀ i j, i < n → j < n → J i j ≤ 1000) :
    Calls Try.prog 65 #[.pointer (some ⟨bx, 0, none⟩), .int .i64 ai, .int .i64 bi] w fun e w' => e = .returned (.tuple #[]) ∧ KeptX (fun k => base ≤ k) w w' ∧ w'.rowIs bx 78 4 (ybox n (m + 1) bd bj) ∧ YardOwn base w' n bd bj br (joinD D a b) (joinJ J a b) := by
  subst hai hbi
  obtain ⟨⟨yd, yt, yr⟩, g1, g2, g3, g4, g5, g6, g7⟩ := hY
  have hra := g7 a b ha hb hab
  have c1 : w.cell? ⟨bx, 1, none⟩ = some (.int .i64 m) := hbx.cell (i := 1) (by omega)
  have f1 := hbx.frozen 1
  have a0 : (0 : Int) ≤ (a : Int) := by omega
  have a1 : (a : Int) < (n : Int) := by omega
  have b0 : (0 : Int) ≤ (b : Int) := by omega
  have b1 : (b : Int) < (n : Int) := by omega
  go_enter Try.func65, Try.ntmps65
  go_upto_region 1 with fail
  have hX1 : KeptX (fun k => base ≤ k) w (w.setCell ⟨bx, 1, none⟩ (.int .i64 ((m : Int) + 1))) := KeptX.setCell (KeptX.refl _ w) (p := ⟨bx, 1, none⟩) (Or.inl h0) _
  have hb1 := (hbx.set 1 (.int .i64 ((m : Int) + 1))).congr (g := ybox n (m + 1) bd bj) (fun i _ => by
    by_cases e : i = 1
    · subst e; rfl
    · simp [ybox, e])
  have yd1 := yd.setOther (a := ⟨bx, 1, none⟩) (Ne.symm h1) (.int .i64 ((m : Int) + 1))
  have yt1 := yt.setOther (a := ⟨bx, 1, none⟩) (Ne.symm h2) (.int .i64 ((m : Int) + 1))
  have yr1 := fun i (hi : i < n) => (yr i hi).setOther (a := ⟨bx, 1, none⟩) (Ne.symm (h3 i hi)) (.int .i64 ((m : Int) + 1))
  generalize w.setCell ⟨bx, 1, none⟩ (.int .i64 ((m : Int) + 1)) = W1 at *
  clear c1 f1 hbx yd yt yr
  have c2 : W1.cell? ⟨bx, 2, none⟩ = some (.slice (some ⟨bd, 0, none⟩) n n) := hb1.cell (i := 2) (by omega)
  have d1 := yd1.cell ha
  have f2 := yd1.frozen a
  have hDa := hD a ha
  have hDb := hD b hb
  go_upto_region 2 with fail
  have hX2 := hX1.setCell (p := ⟨bd, a, none⟩) (Or.inl g1) (.int .i64 ((D a : Int) + 1))
  have hb2 := hb1.setOther (a := ⟨bd, a, none⟩) h1 (.int .i64 ((D a : Int) + 1))
  have yd2 := (yd1.set a (.int .i64 ((D a : Int) + 1))).congr (g := fun i => .int .i64 ((D i + (if i = a then 1 else 0) : Nat) : Int)) (fun i _ => by
    by_cases e : i = a
    · subst e; simp
    · simp [e])
  have yt2 := yt1.setOther (a := ⟨bd, a, none⟩) (Ne.symm g4) (.int .i64 ((D a : Int) + 1))
  have yr2 := fun i (hi : i < n) => (yr1 i hi).setOther (a := ⟨bd, a, none⟩) (g5 i hi) (.int .i64 ((D a : Int) + 1))
  generalize W1.setCell ⟨bd, a, none⟩ (.int .i64 ((D a : Int) + 1)) = W2 at *
  clear c2 d1 f2 hX1 hb1 yd1 yt1 yr1
  have c2 : W2.cell? ⟨bx, 2, none⟩ = some (.slice (some ⟨bd, 0, none⟩) n n) := hb2.cell (i := 2) (by omega)
  have d1 := yd2.cell hb
  rw [if_neg (Ne.symm hab), Nat.add_zero] at d1
  have f2 := yd2.frozen b
  go_upto_region 3 with fail
  have hX3 := hX2.setCell (p := ⟨bd, b, none⟩) (Or.inl g1) (.int .i64 ((D b : Int) + 1))
  have hb3 := hb2.setOther (a := ⟨bd, b, none⟩) h1 (.int .i64 ((D b : Int) + 1))
  have yd3 := (yd2.set b (.int .i64 ((D b : Int) + 1))).congr (g := fun i => .int .i64 ((joinD D a b i : Nat) : Int)) (fun i _ => by
    by_cases e : i = b
    · subst e; simp [joinD, Ne.symm hab]
    · simp [joinD, e])
  have yt3 := yt2.setOther (a := ⟨bd, b, none⟩) (Ne.symm g4) (.int .i64 ((D b : Int) + 1))
  have yr3 := fun i (hi : i < n) => (yr2 i hi).setOther (a := ⟨bd, b, none⟩) (g5 i hi) (.int .i64 ((D b : Int) + 1))
  generalize W2.setCell ⟨bd, b, none⟩ (.int .i64 ((D b : Int) + 1)) = W3 at *
  clear c2 d1 f2 hX2 hb2 yd2 yt2 yr2
  have c3 : W3.cell? ⟨bx, 3, none⟩ = some (.slice (some ⟨bj, 0, none⟩) n n) := hb3.cell (i := 3) (by omega)
  have t1 := yt3.cell ha
  have r1 := (yr3 a ha).cell hb
  have f2 := (yr3 a ha).frozen b
  have hJa := hJ a b ha hb
  have hJb := hJ b a hb ha
  go_upto_region 4 with fail
  have hX4 := hX3.setCell (p := ⟨br a, b, none⟩) (Or.inl (g3 a ha)) (.int .i64 ((J a b : Int) + 1))
  have hb4 := hb3.setOther (a := ⟨br a, b, none⟩) (h3 a ha) (.int .i64 ((J a b : Int) + 1))
  have yd4 := yd3.setOther (a := ⟨br a, b, none⟩) (Ne.symm (g5 a ha)) (.int .i64 ((J a b : Int) + 1))
  have yt4 := yt3.setOther (a := ⟨br a, b, none⟩) (Ne.symm (g6 a ha)) (.int .i64 ((J a b : Int) + 1))
  have yr4 : ∀ i, i < n → (W3.setCell ⟨br a, b, none⟩ (.int .i64 ((J a b : Int) + 1))).rowIs (br i) 3 n (fun j => .int .i64 ((J i j + (if i = a ∧ j = b then 1 else 0) : Nat) : Int)) := by
    intro i hi
    by_cases e : i = a
    · subst e
      refine ((yr3 i hi).set b _).congr (fun j _ => ?_)
      by_cases e2 : j = b
      · subst e2; simp
      · simp [e2]
    · refine ((yr3 i hi).setOther (a := ⟨br a, b, none⟩) (g7 i a hi ha e) _).congr (fun j _ => ?_)
      simp [e]
  generalize W3.setCell ⟨br a, b, none⟩ (.int .i64 ((J a b : Int) + 1)) = W4 at *
  clear c3 t1 r1 f2 hX3 hb3 yd3 yt3 yr3
  have c3 : W4.cell? ⟨bx, 3, none⟩ = some (.slice (some ⟨bj, 0, none⟩) n n) := hb4.cell (i := 3) (by omega)
  have t1 := yt4.cell hb
  have r1 := (yr4 b hb).cell ha
  rw [if_neg (fun h => hab h.1.symm), Nat.add_zero] at r1
  have f2 := (yr4 b hb).frozen a
  go_wp2_with fail
  have hX5 := hX4.setCell (p := ⟨br b, a, none⟩) (Or.inl (g3 b hb)) (.int .i64 ((J b a : Int) + 1))
  have hb5 := hb4.setOther (a := ⟨br b, a, none⟩) (h3 b hb) (.int .i64 ((J b a : Int) + 1))
  have yd5 := yd4.setOther (a := ⟨br b, a, none⟩) (Ne.symm (g5 b hb)) (.int .i64 ((J b a : Int) + 1))
  have yt5 := yt4.setOther (a := ⟨br b, a, none⟩) (Ne.symm (g6 b hb)) (.int .i64 ((J b a : Int) + 1))
  have yr5 : ∀ i, i < n → (W4.setCell ⟨br b, a, none⟩ (.int .i64 ((J b a : Int) + 1))).rowIs (br i) 3 n (fun j => .int .i64 ((joinJ J a b i j : Nat) : Int)) := by
    intro i hi
    by_cases e : i = b
    · subst e
      refine ((yr4 i hi).set a _).congr (fun j _ => ?_)
      by_cases e2 : j = a
      · subst e2; simp [joinJ]
      · simp [joinJ, e2, Ne.symm hab]
    · refine ((yr4 i hi).setOther (a := ⟨br b, a, none⟩) (g7 i b hi hb e) _).congr (fun j _ => ?_)
      simp [joinJ, e]
  go_end0
  exact ⟨rfl, hX5, hb5, ⟨yd5, yt5, yr5⟩, g1, g2, g3, g4, g5, g6, g7⟩
end Go.Proofs.Ytlnpipkhofhlnaa
