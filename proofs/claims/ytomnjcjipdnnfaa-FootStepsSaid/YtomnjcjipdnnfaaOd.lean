/-
  How many walks there are: the numbers, and the reference's table in memory.
-/
import Derived.Test.YtomnjcjipdnnfaaOb
import Derived.Test.YtomnjcjipdnnfaaOc
namespace Go.Proofs.Ytomnjcjipdnnfaa
open Go.RowKit Go.Deep

/-- how many walks there are -/
def delG : Nat → Nat → Nat → Int
  | 0, _, _ => 1
  | g + 1, i, j => if i = 0 ∨ j = 0 then 1 else delG g (i - 1) j + delG g i (j - 1) + delG g (i - 1) (j - 1)
theorem delG_succ (g i j : Nat) : delG (g + 1) i j = if i = 0 ∨ j = 0 then 1 else delG g (i - 1) j + delG g i (j - 1) + delG g (i - 1) (j - 1) := rfl
def del (i j : Nat) : Int := delG (i + j) i j
theorem delG_more : ∀ (g i j : Nat), i + j ≤ g → delG g i j = delG (g + 1) i j := by
  intro g
  induction g with
  | zero =>
    intro i j h
    have h1 : i = 0 := (by omega)
    subst h1
    rfl
  | succ g ih =>
    intro i j h
    rw [delG_succ g i j, delG_succ (g + 1) i j]
    by_cases e : i = 0 ∨ j = 0
    · rw [if_pos e, if_pos e]
    · rw [if_neg e, if_neg e, ih (i - 1) j (by omega), ih i (j - 1) (by omega), ih (i - 1) (j - 1) (by omega)]
theorem delG_any {i j : Nat} (d : Nat) : delG (i + j + d) i j = del i j := by
  induction d with
  | zero => rfl
  | succ d ih => rw [← ih, show i + j + (d + 1) = i + j + d + 1 by omega, ← delG_more _ i j (by omega)]
theorem del_zl (j : Nat) : del 0 j = 1 := by
  unfold del
  cases h : 0 + j with
  | zero => rfl
  | succ n => simp [delG]
theorem del_zr (i : Nat) : del i 0 = 1 := by
  unfold del
  cases h : i + 0 with
  | zero => rfl
  | succ n => simp [delG]
theorem del_ss (i j : Nat) : del (i + 1) (j + 1) = del i (j + 1) + del (i + 1) j + del i j := by
  show delG (i + 1 + (j + 1)) (i + 1) (j + 1) = _
  rw [show i + 1 + (j + 1) = (i + j + 1) + 1 by omega]
  rw [delG_succ, if_neg (by omega), Nat.add_sub_cancel, Nat.add_sub_cancel]
  rw [show delG (i + j + 1) i (j + 1) = del i (j + 1) from rfl, show i + j + 1 = i + 1 + j by omega, show delG (i + 1 + j) (i + 1) j = del (i + 1) j from rfl, show i + 1 + j = i + j + 1 by omega, delG_any 1]
theorem del_bd : ∀ (k i j : Nat), i + j ≤ k → 1 ≤ del i j ∧ del i j ≤ 3 ^ k := by
  intro k
  induction k with
  | zero =>
    intro i j h
    have h1 : i = 0 := (by omega)
    subst h1
    rw [del_zl]; simp
  | succ k ih =>
    intro i j h
    have hp : (1 : Int) ≤ 3 ^ k := by have := Int.pow_pos (n := 3) (m := k) (by omega); omega
    rw [Int.pow_succ]
    cases i with
    | zero => rw [del_zl]; omega
    | succ i =>
      cases j with
      | zero => rw [del_zr]; omega
      | succ j =>
        rw [del_ss]
        have h1 := ih i (j + 1) (by omega)
        have h2 := ih (i + 1) j (by omega)
        have h3 := ih i j (by omega)
        omega
theorem del_lt {i j : Nat} (hi : i ≤ 30) (hj : j ≤ 30) : 1 ≤ del i j ∧ del i j ≤ 100000000000000000000000000000 := by
  have := del_bd 60 i j (by omega)
  omega
/-- rows of pairs of cells -/
def zl (E : Nat → Value × Value) (k : Nat) : List Value := (List.range (k * 2)).map (fun t => if t % 2 = 0 then (E (t / 2)).1 else (E (t / 2)).2)
def zup (E : Nat → Value × Value) (k : Nat) (x y : Value) : Nat → Value × Value := fun t => if t = k then (x, y) else E t
theorem zl_snoc (E : Nat → Value × Value) (k : Nat) (x y : Value) : zl (zup E k x y) (k + 1) = zl E k ++ [x, y] := by
  unfold zl
  rw [show (k + 1) * 2 = k * 2 + 1 + 1 by omega, List.range_succ, List.range_succ, List.map_append, List.map_append, List.append_assoc]
  congr 1
  · apply List.map_congr_left
    intro t ht
    have := List.mem_range.1 ht
    have hne : t / 2 ≠ k := by omega
    simp [zup, hne]
  · have h1 : k * 2 % 2 = 0 := by omega
    have h2 : (k * 2 + 1) % 2 = 1 := by omega
    have h3 : k * 2 / 2 = k := by omega
    have h4 : (k * 2 + 1) / 2 = k := by omega
    simp [zup, h1, h2, h3, h4]
theorem zl_get {E : Nat → Value × Value} {k j : Nat} (h : j < k) : (zl E k)[j * 2]? = some (E j).1 ∧ (zl E k)[j * 2 + 1]? = some (E j).2 := by
  unfold zl
  rw [List.getElem?_map, List.getElem?_map, List.getElem?_range (by omega), List.getElem?_range (by omega)]
  have h1 : j * 2 % 2 = 0 := by omega
  have h2 : (j * 2 + 1) % 2 = 1 := by omega
  have h3 : j * 2 / 2 = j := by omega
  have h4 : (j * 2 + 1) / 2 = j := by omega
  simp [h1, h2, h3, h4]
def EntZ (w : World) (e : Value × Value) (z : Int) : Prop := ∃ (m : Bool) (a : Option Addr) (l c : Nat), e = (.bool m, .slice a l c) ∧ ZAt w (.agg #[.bool m, .slice a l c]) z ∧ ZTy w (.agg #[.bool m, .slice a l c])
theorem EntZ.kept {w w' : World} {e : Value × Value} {z : Int} (h : EntZ w e z) (k : Kept w w') : EntZ w' e z := by
  obtain ⟨m, a, l, c, h1, h2, h3⟩ := h
  exact ⟨m, a, l, c, h1, h2.kept k, h3.kept k⟩
theorem EntZ.keptX {w w' : World} {e : Value × Value} {z : Int} {r N : Nat} {t : TypeId} {f : Nat → Value} (h : EntZ w e z) (k : KeptX (fun k => k = r) w w') (hr : w.rowIs r t N f) (ht : t ≠ 3) : EntZ w' e z := by
  obtain ⟨m, a, l, c, h1, h2, h3⟩ := h
  exact ⟨m, a, l, c, h1, h2.keptTy h3 k hr ht, h3.keptX k hr ht⟩
/-- a finished row of the table -/
def RowAt (w : World) (sv : Value) (n : Nat) (F : Nat → Int) : Prop := ∃ (g cap N : Nat) (f : Nat → Value) (E : Nat → Value × Value), sv = .slice (some ⟨g, 0, none⟩) n cap ∧ w.rowIs g 60 N f ∧ ∀ j, j < n → j * 2 + 1 < N ∧ f (j * 2) = (E j).1 ∧ f (j * 2 + 1) = (E j).2 ∧ EntZ w (E j) (F j)
theorem RowAt.kept {w w' : World} {sv : Value} {n : Nat} {F : Nat → Int} (h : RowAt w sv n F) (k : Kept w w') : RowAt w' sv n F := by
  obtain ⟨g, cap, N, f, E, h1, h2, h3⟩ := h
  exact ⟨g, cap, N, f, E, h1, k.row h2, fun j hj => by obtain ⟨a, b, c, d⟩ := h3 j hj; exact ⟨a, b, c, d.kept k⟩⟩
theorem RowAt.keptX {w w' : World} {sv : Value} {n : Nat} {F : Nat → Int} {r N' : Nat} {t : TypeId} {f' : Nat → Value} (h : RowAt w sv n F) (k : KeptX (fun k => k = r) w w') (hr : w.rowIs r t N' f') (ht : t ≠ 3) (ht2 : t ≠ 60) : RowAt w' sv n F := by
  obtain ⟨g, cap, N, f, E, h1, h2, h3⟩ := h
  refine ⟨g, cap, N, f, E, h1, k.row h2 (fun hg => ?_), fun j hj => by obtain ⟨a, b, c, d⟩ := h3 j hj; exact ⟨a, b, c, d.keptX k hr ht⟩⟩
  subst hg
  exact ht2 (row_ty hr h2)
theorem own_row2 {w : World} {base e : Nat} {n g cap : Nat} {E : Nat → Value × Value} (h : w.ownsRow base e 2 (.slice (some ⟨g, 0, none⟩) n cap) n (zl E n)) : ∃ N f, w.rowIs g e N f ∧ ∀ j, j < n → j * 2 + 1 < N ∧ f (j * 2) = (E j).1 ∧ f (j * 2 + 1) = (E j).2 := by
  obtain ⟨hl, h⟩ := h
  rcases h with ⟨h1, _⟩ | ⟨g', cap', cur, h1, h2, h3, _, _, hs, ht⟩
  · cases h1
  · cases h1
    refine ⟨cur.size, fun i => cur.getD i undef, ⟨cur, h3, rfl, fun i hi => by simp [Array.getD, hi]⟩, fun j hj => ?_⟩
    obtain ⟨g1, g2⟩ := zl_get (E := E) hj
    rw [← ht] at g1 g2
    have hsz : j * 2 + 1 < cur.size := by
      have := (List.getElem?_eq_some_iff.1 g2).1
      simp at this
      omega
    refine ⟨hsz, ?_, ?_⟩
    · rw [List.getElem?_take, if_pos (by omega)] at g1
      simp [Array.getD, show j * 2 < cur.size by omega] at g1 ⊢
      exact g1
    · rw [List.getElem?_take, if_pos (by omega)] at g2
      simp [Array.getD, hsz] at g2 ⊢
      exact g2
theorem grew_one {b c : World} {g n cap : Nat} (h : b.grownBy c (Value.slice (some ⟨g, 0, none⟩) n cap).ownBlock) : KeptX (fun k => k = g) b c :=
  (KeptX.refl _ b).grown h (fun k hk => Or.inl (by simpa [Value.ownBlock] using hk.symm))
end Go.Proofs.Ytomnjcjipdnnfaa
