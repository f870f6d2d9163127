/-
  The reference's Turan.
-/
import Derived.Test.YtlnlddnjalfamaaGreatDoorJa
import Derived.BigQuiet
namespace Go.Proofs.YtlnlddnjalfamaaGreatDoor
open Go.RowKit Go.Deep

theorem own_zeroT (W : World) (base : Nat) (t : TypeId) (s : Nat) (hb : base ≤ W.heap.size) : (W.alloc (.cells #[] t)).ownsRow base t s (.slice (some ⟨W.heap.size, 0, none⟩) 0 0) 0 [] := by
  refine ⟨by simp, .inr ⟨W.heap.size, 0, #[], rfl, hb, ?_, Nat.le_refl _, Nat.zero_le _, by simp, by simp⟩⟩
  rw [blk_alloc_new]
theorem pair_new (W : World) (h : Nat) (hh : W.heap.size = h) (a b : Value) (t : TypeId) : ∀ (j : Nat) (u : Value), [a, b][j]? = some u → (W.alloc (.cells #[a, b] t)).cell? ((⟨h, 0, none⟩ : Addr).add j) = some u := by
  subst hh
  intro j u h
  rw [add_at, Nat.zero_add]
  unfold World.cell?
  dsimp only
  rw [blk_alloc_new]
  have hj : j = 0 ∨ j = 1 := by
    have := (List.getElem?_eq_some_iff.1 h).1
    simp at this
    omega
  rcases hj with rfl | rfl <;> exact h
theorem nats_snoc (l : List Nat) (x : Nat) : nats (l ++ [x]) = nats l ++ [.int .i64 (x : Int)] := by simp [nats]
theorem rep_snoc (k p : Nat) : List.replicate (k + 1) p = List.replicate k p ++ [p] := List.replicate_succ'
theorem prtL_len {n r k : Nat} (hk : k ≤ r) : (prtL n r k).length = fstN n r k := by
  induction k with
  | zero => rfl
  | succ k ih =>
    rw [prtL_succ, List.length_append, ih (by omega), List.length_replicate]
    rfl
end Go.Proofs.YtlnlddnjalfamaaGreatDoor
