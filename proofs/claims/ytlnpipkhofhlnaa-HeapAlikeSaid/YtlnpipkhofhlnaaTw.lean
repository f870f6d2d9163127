/-
  Slices of slices of ints that were made by append.
-/
import Derived.Test.YtlnpipkhofhlnaaLa
import Derived.Test.YtlnpipkhofhlnaaLd
import Derived.Test.YtlnpipkhofhlnaaW
namespace Go.Proofs.Ytlnpipkhofhlnaa
open Go.RowKit Go.Deep

theorem Try.infoInts : (Try.prog.info? 25).map (fun i => (i.zero, i.size, i.bytes)) = some (some (.slice none 0 0), 1, 24) := by kernel_rfl
theorem own_keptY {S : Nat → Prop} {w w' : World} {base e size : Nat} {v : Value} {n : Nat} {xs : List Value} (h : w.ownsRow base e size v n xs) (k : KeptX S w w') (hS : ∀ b c f, w.heap[b]? = some (.cells c e f) → base ≤ b → ¬ S b) : w'.ownsRow base e size v n xs := by
  obtain ⟨h1, h⟩ := h
  refine ⟨h1, ?_⟩
  rcases h with h | ⟨g, cap, cur, e1, e2, e3, rest⟩
  · exact .inl h
  · have hlt : g < w.heap.size := (Array.getElem?_eq_some_iff.1 e3).1
    exact .inr ⟨g, cap, cur, e1, e2, (k.block g hlt (hS g _ _ e3 e2)).trans e3, rest⟩
/-- an append to a row of another type leaves a row as it is -/
theorem own_grow {w w' : World} {base lo T e size : Nat} {u v : Value} {n k : Nat} {xs ys : List Value} (h : w.ownsRow lo e 1 u n ys) (ho : w.ownsRow base T size v k xs) (hT : T ≠ e) (hg : w.grownBy w' v.ownBlock) : w'.ownsRow lo e 1 u n ys := by
  refine own_keptY h ((KeptX.refl (fun b => v.ownBlock = some b) w).grown hg (fun b hb => Or.inl hb)) (fun b c f hb _ hS => ?_)
  rcases ho.2 with ⟨h1, _⟩ | ⟨g', cap', cur, h1, _, h3, _⟩
  · subst h1; cases hS
  · subst h1
    have e1 : g' = b := by simpa [Value.ownBlock] using hS
    subst e1
    rw [hb] at h3
    injection h3 with h3
    injection h3 with _ h3
    exact hT h3.symm
/-- a store into another row, which lies below or has another type -/
theorem own_store {w w' : World} {lo r n : Nat} {u : Value} {ys : List Value} (h : w.ownsRow lo 3 1 u n ys) (k : KeptX (fun k => k = r) w w') (hr : r < lo) : w'.ownsRow lo 3 1 u n ys := own_keptX h k (fun b hb => by rw [hb]; exact hr)
/-- v is a slice of these rows of N ints each, which lie from lo on -/
def TabL (w : World) (base lo : Nat) (v : Value) (l : List (Nat → Int)) (N : Nat) : Prop := ∃ vs : List Value, vs.length = l.length ∧ w.ownsRow base 25 1 v l.length vs ∧ ∀ (i : Nat) (x : Nat → Int), l[i]? = some x → ∃ u, vs[i]? = some u ∧ w.ownsRow lo 3 1 u N (ints x N)
theorem TabL.kept {w w' : World} {base lo : Nat} {v : Value} {l : List (Nat → Int)} {N : Nat} (h : TabL w base lo v l N) (k : Kept w w') : TabL w' base lo v l N := by
  obtain ⟨vs, h1, h2, h3⟩ := h
  refine ⟨vs, h1, own_kept h2 k, fun i x hx => ?_⟩
  obtain ⟨u, h4, h5⟩ := h3 i x hx
  exact ⟨u, h4, own_kept h5 k⟩
theorem TabL.store {w w' : World} {base lo r : Nat} {v : Value} {l : List (Nat → Int)} {N : Nat} (h : TabL w base lo v l N) (k : KeptX (fun k => k = r) w w') (hr : r < lo) (hr2 : r < base) : TabL w' base lo v l N := by
  obtain ⟨vs, h1, h2, h3⟩ := h
  refine ⟨vs, h1, own_keptX h2 k (fun b hb => by rw [hb]; exact hr2), fun i x hx => ?_⟩
  obtain ⟨u, h4, h5⟩ := h3 i x hx
  exact ⟨u, h4, own_store h5 k hr⟩
theorem TabL.nil (w : World) (base lo N : Nat) {v : Value} (h : w.ownsRow base 25 1 v 0 []) : TabL w base lo v [] N := ⟨[], rfl, h, fun i x hx => by simp at hx⟩
/-- one more row at the end -/
theorem TabL.grow {w w' : World} {base lo : Nat} {v v' u : Value} {l : List (Nat → Int)} {x : Nat → Int} {N : Nat} {vs : List Value} (h1 : vs.length = l.length) (h2 : w.ownsRow base 25 1 v l.length vs) (h3 : ∀ (i : Nat) (x : Nat → Int), l[i]? = some x → ∃ u, vs[i]? = some u ∧ w.ownsRow lo 3 1 u N (ints x N))
    (hu : w.ownsRow lo 3 1 u N (ints x N)) (ho : w'.ownsRow base 25 1 v' (l.length + 1) (vs ++ [u])) (hg : w.grownBy w' v.ownBlock) : TabL w' base lo v' (l ++ [x]) N := by
  refine ⟨vs ++ [u], by simp [h1], by simpa using ho, fun i y hy => ?_⟩
  rw [List.getElem?_append] at hy
  by_cases e : i < l.length
  · rw [if_pos e] at hy
    obtain ⟨u2, h4, h5⟩ := h3 i y hy
    exact ⟨u2, by rw [List.getElem?_append_left (by omega)]; exact h4, own_grow h5 h2 (by decide) hg⟩
  · rw [if_neg e] at hy
    have hi : i - l.length = 0 := by
      rcases Nat.eq_zero_or_pos (i - l.length) with h | h
      · exact h
      · rw [List.getElem?_eq_none (by simp; omega)] at hy; cases hy
    rw [hi] at hy
    simp at hy
    subst hy
    exact ⟨u, by rw [List.getElem?_append_right (by omega), h1, hi]; rfl, own_grow hu h2 (by decide) hg⟩
/-- what reading the table finds -/
theorem TabL.read {w : World} {base lo : Nat} {v : Value} {l : List (Nat → Int)} {N : Nat} (h : TabL w base lo v l N) : ∃ us : Nat → Value, CellsAt w v l.length us ∧ ∀ (i : Nat) (x : Nat → Int), l[i]? = some x → w.ownsRow lo 3 1 (us i) N (ints x N) := by
  obtain ⟨vs, h1, h2, h3⟩ := h
  refine ⟨_, CellsAt.of_own h2, fun i x hx => ?_⟩
  obtain ⟨u, h4, h5⟩ := h3 i x hx
  rw [List.getD_eq_getElem?_getD, h4]
  exact h5
end Go.Proofs.Ytlnpipkhofhlnaa
