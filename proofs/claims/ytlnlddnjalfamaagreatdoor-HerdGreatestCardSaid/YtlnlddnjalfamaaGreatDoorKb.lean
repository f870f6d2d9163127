/-
  The reference's Colors.
-/
import Derived.Test.YtlnlddnjalfamaaGreatDoorKa
namespace Go.Proofs.YtlnlddnjalfamaaGreatDoor
open Go.RowKit Go.Deep

theorem paintL_len (H : Nat → Nat) (few f : Nat) : ∀ (l d : List Nat), paintL H few f l = some d → d.length = l.length + f := by
  induction f with
  | zero => intro l d h; cases h; rfl
  | succ f ih =>
    intro l d h
    unfold paintL at h
    obtain ⟨c, _, hc⟩ := List.exists_of_findSome?_eq_some h
    by_cases e : diffB H (lget (l ++ [c])) l.length l.length = true
    · rw [if_pos e] at hc
      have := ih _ _ hc
      simp at this
      omega
    · rw [if_neg e] at hc
      cases hc
theorem ColorsIs.len {H : Nat → Nat} {n : Nat} {d : List Nat} (h : ColorsIs H n d) : d.length = n := by
  obtain ⟨few, _, _, h, _⟩ := h
  have := paintL_len H few n [] d h
  simpa using this
theorem ColorsIs.uniq {H : Nat → Nat} {n : Nat} {d d' : List Nat} (h : ColorsIs H n d) (h' : ColorsIs H n d') : d = d' := by
  obtain ⟨f1, a1, _, h1, m1⟩ := h
  obtain ⟨f2, a2, _, h2, m2⟩ := h'
  rcases Nat.lt_trichotomy f1 f2 with e | e | e
  · rw [m2 f1 a1 e] at h1; cases h1
  · subst e
    rw [h1] at h2
    exact Option.some.inj h2
  · rw [m1 f2 a2 e] at h2; cases h2
def RColsPost (w : World) (n : Nat) (H : Nat → Nat) (e : Ending) (w' : World) : Prop := ∃ (v : Value) (d : List Nat), e = .returned v ∧ ColorsIs H n d ∧ NatsAt w' v d ∧ Kept w w'
end Go.Proofs.YtlnlddnjalfamaaGreatDoor
